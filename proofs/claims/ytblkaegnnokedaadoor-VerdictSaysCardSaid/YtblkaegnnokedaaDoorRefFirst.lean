/- The walk of the document's answer for the first word: stilewardref1's First. -/
import Derived.Test.YtblkaegnnokedaaDoorRefIn
import Derived.Test.YtblkaegnnokedaaDoorFirst
namespace Go.Proofs.YtblkaegnnokedaaDoor.Rc
open Go.RowKit Go.IntWalk Go.Proofs.YtblkaegnnokedaaDoor.Wd Go.Proofs.YtblkaegnnokedaaDoor.Wo Go.Proofs.YtblkaegnnokedaaDoor.Df

theorem firstW_at {d : Aut} {s k : Nat} (hk : k < d.next.length + 1) (h : inK d k s = true) (hmin : ∀ j, j < k → inK d j s = false) : firstW d s = some (pick d k s) := by
  unfold firstW
  rw [least_is (p := fun k => inK d k s) hk h hmin]; rfl
theorem firstW_no {d : Aut} {s : Nat} (hmin : ∀ j, j < d.next.length + 1 → inK d j s = false) : firstW d s = none := by
  unfold firstW
  rcases h : least (d.next.length + 1) (fun k => inK d k s) with _ | k
  · rfl
  · obtain ⟨h1, h2, _⟩ := least_some h
    rw [hmin k h1] at h2; cases h2
/-- The way back, midway: l is written, k letters are left from state t on. -/
structure Way (d : Aut) (s K : Nat) (l : List Int) (t k : Nat) : Prop where
  eq : l ++ pick d k t = pick d K s
  ok : inK d k t = true
  lt : t < d.next.length
  len : l.length + k = K
theorem way_next {d : Aut} (g : Df.Good d) {s K : Nat} {l : List Int} {t k : Nat} (h : Way d s K l t (k + 1)) {a : Nat} (ha : (a : Int) < d.L) (hp : inK d k (Df.step d t a) = true) (hmin : ∀ j, j < a → inK d k (Df.step d t j) = false) :
    Way d s K (l ++ [(a : Int)]) (Df.step d t a) k := by
  have hl : least d.L.toNat (fun a => inK d k (Df.step d t a)) = some a := least_is (by omega) hp hmin
  refine ⟨?_, hp, g.step_lt h.lt ha, by rw [List.length_append, List.length_singleton]; have := h.len; omega⟩
  rw [← h.eq, pick_succ hl, List.append_assoc]; rfl
theorem way_least {d : Aut} {s K : Nat} {l : List Int} {t k : Nat} (h : Way d s K l t (k + 1)) : ∃ a : Nat, (a : Int) < d.L ∧ inK d k (Df.step d t a) = true ∧ ∀ j, j < a → inK d k (Df.step d t j) = false := by
  obtain ⟨a, ha⟩ := least_letter h.ok
  obtain ⟨h1, h2, h3⟩ := least_some ha
  exact ⟨a, by omega, h2, h3⟩
set_option linter.unusedSimpArgs false in
set_option maxRecDepth 100000 in
set_option maxHeartbeats 4000000 in
theorem rfirst_any (v : Value) (d : Aut) (s : Nat) (w : World) (h : DfaAt w w.heap.size v d) (hg : Df.Good d) (hs : s < d.next.length) :
    Calls Tryd.prog 14 #[v, .int .i64 s] w fun e w' => Hid (FF d s w e w') := by
  have HV := h
  obtain ⟨L, s0, A, c, F, cf, rfl, h⟩ := h
  obtain ⟨w1, hw1, hB1, hX, hd1⟩ := box_dfa w h
  have HB := Lib.hid hB1
  have HX := Lib.hid hX
  have HW := Lib.hid hw1
  have HD := Lib.hid hd1
  have HG := Lib.hid hg
  have hc0 := hX.c0
  have hc1 := hX.c1
  have hc2 := hX.c2
  have hc3 := hX.c3
  have h40 := hg.n40
  have HI := Lib.hid (rin_any _ d d.next.length w1 (HV.on hB1) hg (by omega))
  have HYes := Lib.hid (fun k hk h hm => firstW_at (d := d) (s := s) (k := k) hk h hm)
  have HNo := Lib.hid (firstW_no (d := d) (s := s))
  have HY0 : Hid (∀ j, j < 0 → inK d j s = false) := fun j hj => by omega
  clear h hd1 hw1 hX hB1 hg HV
  generalize hm : d.fin.length = m at *
  clear hm
  generalize hN : d.next.length = N at *
  have HN := Lib.hid hN
  clear hN
  go_enter Tryd.func14, Tryd.ntmps14
  go_wp2_with fail
  rw [← HW.out]
  clear HW
  refine HI.out.mono ?_
  rintro e w2 he
  obtain ⟨At, ct, rs, h1, h2, h3, h4, h5⟩ := he.out
  subst h1
  have HLen := Lib.hid h2
  have HRows := Lib.hid h3
  have HT := Lib.hid h4
  have HX := Lib.hid (HX.out.on h5)
  have HD := Lib.hid (HD.out.on h5)
  have HB := Lib.hid (HB.out.trans (h5.mono HB.out.size))
  clear he h2 h3 h4 h5 HI hc0 hc1 hc2 hc3
  go_wp2
  go_loop [7] (fun i => ∃ (k : Nat), k ≤ N + 1 ∧ i = .int .i64 k ∧ Hid (∀ j, j < k → inK d j s = false)) (fun i => N + 1 - (intOf i).toNat)
  case atStart => exact ⟨0, by omega, rfl, HY0⟩
  case round =>
    clear HY0
    obtain ⟨k, hk, rfl, HS⟩ := hrel
    by_cases hkN : k < N + 1
    · obtain ⟨r, hr⟩ : ∃ r, rs[k]? = some r := ⟨_, List.getElem?_eq_getElem (by rw [HLen.out]; exact hkN)⟩
      obtain ⟨_, ⟨adt, e0, hatb, hatc⟩, hrb, hrc0⟩ := HT.out k r hr
      subst e0
      have hrc := hrc0 s (inK d k s) (by rw [HRows.out k r hr]; exact bF_get _ hs)
      clear hrc0
      unfold brV at hatc
      have e1 : (s : Int) < (N : Int) := by omega
      have e2 : (k : Int) < (N : Int) + 1 := by omega
      rcases hin : inK d k s with _ | _
      · have HN1 : Hid (∀ j, j < k + 1 → inK d j s = false) := fun j hj => by
          by_cases e : j < k
          · exact HS.out j e
          · obtain rfl : j = k := by omega
            exact hin
        rw [hin] at hrc
        clear hin hr
        go_wp2
        go_round
        case rel => exact ⟨k + 1, by omega, by go_num, HN1⟩
        case measure => simp [intOf]; omega
      · have HF1 := Lib.hid (HYes.out k hkN hin HS.out)
        have HW0 : Hid (Way d s k [] s k) := ⟨rfl, hin, by rw [HN.out]; exact hs, by simp⟩
        have HO0 : Hid (Own w2 w2 [eInts (.slice none 0 0) []] []) := (own_start w2).nil 3 1
        rw [hin] at hrc
        have f3 := int_ne (show (k : Int) ≠ (N : Int) + 1 by omega)
        clear hin hr HYes HNo HS
        go_wp2
        clear hrc hatc
        go_loopw [1, 7, 8] (fun sv i wv wr => ∃ (t q : Nat) (l : List Int), q ≤ k ∧ sv = .int .i64 t ∧ i = .int .i64 q ∧ Hid (Way d s k l t q) ∧ Hid (Own w2 wr [eInts wv l] [])) (fun _ i _ _ => (intOf i).toNat)
        case atStart => exact ⟨s, k, [], by omega, rfl, rfl, HW0, HO0⟩
        case round =>
          clear HW0 HO0
          obtain ⟨t, q, l, hq, rfl, rfl, HWy, HO⟩ := hrel
          rcases q with _ | q
          · have HP : Hid (l = pick d k s) := by have := HWy.out.eq; rw [← this]; simp [pick, Hid]
            have HE := Lib.hid (HO.out.base HB.out).fin
            rw [HP.out] at HE
            clear HO
            go_wp2
            go_ret2
            exact .inl ⟨_, _, HF1.out, rfl, HE.out⟩
          · obtain ⟨a, ha1, ha2, ha3⟩ := way_least HWy.out
            have HA := Lib.hid ha2
            have HA3 := Lib.hid ha3
            have HL6 : Hid (d.L ≤ 6) := HG.out.l6
            have ha6 : a < 6 := by have := HL6.out; omega
            have HA1 := Lib.hid ha1
            have HNx := Lib.hid (way_next HG.out HWy.out ha1 ha2 ha3)
            have hll : l.length < 17592186044416 := by have := HWy.out.len; omega
            have HLt := Lib.hid HWy.out.lt
            clear ha1 ha2 ha3 HWy
            have hq1 : (0 : Int) < (q : Int) + 1 := by omega
            go_wp2
            go_loopw [9] (fun i wi => ∃ (j : Nat), j ≤ a ∧ i = .int .i64 j ∧ Hid (Own w2 wi [eInts u8 l] [])) (fun i _ => a - (intOf i).toNat)
            case atStart => exact ⟨0, by omega, rfl, HO⟩
            case round =>
              clear HO
              obtain ⟨j, hj, rfl, HO⟩ := hrel
              have hbw := HO.out.below
              obtain ⟨ad, ar, mr, cr, e0, hadb, hcell, hjm, harb, hac⟩ := (HD.out.on hbw).step_at HG.out HLt.out (i := j) (by have := HA1.out; omega)
              subst e0
              have hst := HG.out.step_lt HLt.out (a := j) (by have := HA1.out; omega)
              rw [HN.out] at hst
              obtain ⟨r', hr'⟩ : ∃ r, rs[q]? = some r := ⟨_, List.getElem?_eq_getElem (by rw [HLen.out]; omega)⟩
              obtain ⟨_, ⟨adt', e0, hatb', hatc'⟩, hrb', hrc0⟩ := (HT.out.on hbw) q r' hr'
              cases e0
              have hrc' := hrc0 (Df.step d t j) (inK d q (Df.step d t j)) (by rw [HRows.out q r' hr']; exact bF_get _ hst)
              clear hrc0
              unfold brV at hatc'
              have hc2 := (HX.out.on hbw).c2
              have f1 : (t : Int) < (N : Int) := by have := HLt.out; rw [HN.out] at this; omega
              have f2 : (j : Int) < (mr : Int) := by omega
              have f4 : (Df.step d t j : Int) < (N : Int) := by omega
              have f5 : (q : Int) < (N : Int) + 1 := by omega
              have f6 : (q : Int) + 1 < (N : Int) + 1 := by omega
              have HO1 := Lib.hid (HO.out.on (Below.refl _ _).drew)
              have HCell := Lib.hid (hcell)
              have HAc := Lib.hid (hac)
              by_cases hja : j = a
              · subst hja
                rw [HA.out] at hrc'
                clear hr' hst HO hbw
                generalize hu : Df.step d t j = u at *
                have HU := Lib.hid hu
                clear hu
                go_wp2
                go_region
                clear hrc' hatc' HCell HAc hcell hac hc2
                generalize wr.drew = wq at *
                go_wp2_with (at_builtin; refine own_int (by rfl) _ _ (by rfl) (by rfl) HO1.out (by rfl) hll ?_)
                intro g9 cap9 w9 ho9
                have HO9 := Lib.hid ho9
                obtain ⟨ad9, ar9, mr9, cr9, e0, hadb9, hcell9, hjm9, harb9, hac9⟩ := (HD.out.on ho9.below).step_at HG.out HLt.out (i := j) (by have := HA1.out; omega)
                cases e0
                have hc29 := (HX.out.on ho9.below).c2
                rw [HU.out] at hac9
                have f9 : (j : Int) < (mr9 : Int) := by omega
                clear ho9 HO1
                go_wp2
                go_roundw
                case rel => exact ⟨u, q, l ++ [(j : Int)], by omega, rfl, by go_num, HNx, HO9⟩
                case measure => simp [intOf]
              · have hin0 : inK d q (Df.step d t j) = false := HA3.out j (by omega)
                rw [hin0] at hrc'
                clear hr' hst HO hbw hin0
                generalize Df.step d t j = u at *
                go_wp2
                go_region
                clear hrc' hatc' hcell hac hc2 HCell HAc
                go_wp2
                go_roundw
                case rel => exact ⟨j + 1, by omega, by go_num, HO1⟩
                case measure => simp [intOf]; omega
    · obtain rfl : k = N + 1 := by omega
      have HE := Lib.hid (HNo.out HS.out)
      have f3 := int_eq (show ((N : Int) + 1) = (N : Int) + 1 from rfl)
      clear HS
      go_wp2
      go_ret2
      exact .inr ⟨HE.out, rfl, HB.out⟩
end Go.Proofs.YtblkaegnnokedaaDoor.Rc
