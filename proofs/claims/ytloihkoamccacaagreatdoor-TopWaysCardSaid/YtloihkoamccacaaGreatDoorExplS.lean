/- Package dfa's Explore at sets. -/
import Derived.Test.YtloihkoamccacaaGreatDoorExpl
namespace Go.Proofs.YtloihkoamccacaaGreatDoor.Df
open Go.RowKit Go.IntWalk Go.Proofs.YtloihkoamccacaaGreatDoor.Wd Go.Proofs.YtloihkoamccacaaGreatDoor.Wo Go.Proofs.YtloihkoamccacaaGreatDoor.Mp
open Go.Maps (Keyed)

set_option linter.unusedSimpArgs false in
set_option maxRecDepth 100000 in
set_option maxHeartbeats 4000000 in
theorem explS_any (fn ff : Nat) (hcn : ∀ args W, (callFunc fn args).run Tryz.prog W = .ok (.enter fn args) W) (hcf : ∀ args W, (callFunc ff args).run Tryz.prog W = .ok (.enter ff args) W) (q1 r1 : Value) (S : Nat → List Nat) (x0 : Nat) (fin : Nat → Bool) (n : Nat) (w : World) (h1 : 1 ≤ n) (h6 : n ≤ 6) (hS : ∀ x, (S x).length = n) (hlim : (∀ x, Rch S x0 x → x < 1099511627776))
    (HN : ∀ x, Rch S x0 x → ∀ c t, (S x)[c]? = some t → ∀ W, Below w.heap.size w W → Calls Tryz.prog fn #[.int .u64 ((x : Nat) : Int), .int .i64 ((c : Nat) : Int), q1] W fun e w' => e = .returned (.int .u64 ((t : Nat) : Int)) ∧ Below W.heap.size W w')
    (HF : ∀ x, Rch S x0 x → ∀ W, Below w.heap.size w W → Calls Tryz.prog ff #[.int .u64 ((x : Nat) : Int), r1] W fun e w' => e = .returned (.bool (fin x)) ∧ Below W.heap.size W w') :
    Calls Tryz.prog 42 #[.int .i64 (n : Int), .int .u64 ((x0 : Nat) : Int), .func (.func fn) #[] #[q1], .func (.func ff) #[] #[r1]] w fun e w' => Hid (∃ x, e = .returned (.tuple #[x, errV (explOut (n : Int) S x0 fin).2]) ∧ DfaOwn w w' x (explOut (n : Int) S x0 fin).1) := by
  have HN := Lib.hid HN
  have HF := Lib.hid HF
  have HLim := Lib.hid hlim
  have HSn := Lib.hid hS
  have hmm := @run_makeMap Tryz.prog
  obtain ⟨wb, hwb⟩ : ∃ wb, wb = w := ⟨_, rfl⟩
  have hb0 : Below w.heap.size w wb := by rw [hwb]; exact Below.refl _ _
  have hsb : wb.heap.size = w.heap.size := by rw [hwb]
  have HB0 := Lib.hid hb0
  obtain ⟨wz, hwz⟩ : ∃ wz, wz = wb.alloc (.cells #[.int .i64 0, .int .i64 0, .slice none 0 0, .slice none 0 0] 26) := ⟨_, rfl⟩
  have hO1 : Own wb wz [eDfa wb.heap.size zero4] [] := by rw [hwz]; exact (own_start wb).dfa _ _ _ _
  have hsz : wz.heap.size = wb.heap.size + 1 := by rw [hwz]; simp
  have HAl := Lib.hid (alpha_any (n : Int) wz true (decide_eq_true ⟨by omega, by omega⟩).symm)
  have HWz : Hid (wz = w.alloc (.cells #[.int .i64 0, .int .i64 0, .slice none 0 0, .slice none 0 0] 26)) := by rw [Hid, ← hwb]; exact hwz
  have HSz : Hid (wb.heap.size = w.heap.size) := hsb
  have HSZ := Lib.hid hsz
  clear hwz hwb hsz hsb hb0
  go_enter Tryz.func42, Tryz.ntmps42
  go_wp2_with fail
  rw [← HWz.out]
  clear HWz
  refine HAl.out.mono ?_
  rintro e wa ⟨rfl, hwa⟩
  rw [hwa]
  clear hwa HAl wa
  rw [← HSz.out]
  have hO3 := (hO1.dfa (.int .i64 (n : Int)) (.int .i64 0) (.slice none 0 0) (.slice none 0 0)).lit 89 1 1 #[.int .u64 ((x0 : Nat) : Int)] rfl (by simp [maxLen])
  rw [show (wz.alloc (.cells #[.int .i64 (n : Int), .int .i64 0, .slice none 0 0, .slice none 0 0] 26)).heap.size = wz.heap.size + 1 by simp] at hO3
  obtain ⟨kl0, hkl0⟩ := KS_key x0 (HLim.out x0 .base)
  have hs3 : ((wz.alloc (.cells #[.int .i64 (n : Int), .int .i64 0, .slice none 0 0, .slice none 0 0] 26)).alloc (.cells #[.int .u64 ((x0 : Nat) : Int)] 89)).heap.size = wz.heap.size + 1 + 1 := by simp
  obtain ⟨w4, hrun, ht4, hm4⟩ := (map_made ((wz.alloc (.cells #[.int .i64 (n : Int), .int .i64 0, .slice none 0 0, .slice none 0 0] 26)).alloc (.cells #[.int .u64 ((x0 : Nat) : Int)] 89)) Tryz.prog 89 3 KS (Lit.int .i64)).store keyedS Tryz.underlying134 elem_int (by omega) hkl0 KS_inj (x := (0 : Int)) (by decide)
  have hO4 := own_put (hO3.alloc (.map #[] 0)) (by rw [hs3]; have := HSZ.out; omega) (map_made ((wz.alloc (.cells #[.int .i64 (n : Int), .int .i64 0, .slice none 0 0, .slice none 0 0] 26)).alloc (.cells #[.int .u64 ((x0 : Nat) : Int)] 89)) Tryz.prog 89 3 KS (Lit.int .i64)) ht4
  rw [xf_one] at hm4
  rw [hs3] at hm4 hrun
  simp only [KS] at hrun
  have HS0 : Hid (EOut 89 KS eSets S x0 fin n wb w4 wz.heap.size wb.heap.size (wz.heap.size + 1 + 1) 0 (.slice (some ⟨wz.heap.size + 1, 0, none⟩) 1 1)) :=
    ⟨[x0], .slice none 0 0, .slice none 0 0, [], part_zero S x0, ⟨rfl, ((hO4.re [1, 2, 0] 3 rfl (by decide)).nil 4 1).nil 39 1⟩, by have := HSZ.out; omega, hm4⟩
  clear hO1 hO3 hO4 hm4 ht4 hkl0 hs3
  go_wp2
  clear hrun hmm
  generalize wz.heap.size + 1 + 1 = gm at *
  generalize wz.heap.size = g at *
  obtain ⟨gr, hgr⟩ : ∃ gr, gr = wb.heap.size := ⟨_, rfl⟩
  have HGr := Lib.hid hgr
  rw [← hgr]
  rw [← hgr] at HS0
  clear hgr HSZ
  go_loopw [11, 13] (fun pv i wr => ∃ (k : Nat), k ≤ 40 ∧ i = .int .i64 k ∧ Hid (EOut 89 KS eSets S x0 fin n wb wr g gr gm k pv)) (fun _ i _ => 41 - (intOf i).toNat)
  case atStart => exact ⟨0, by omega, rfl, HS0⟩
  case round =>
    clear HS0
    obtain ⟨k, hk, rfl, HS⟩ := hrel
    obtain ⟨l, nv, fv, rs, hpart, hbd, hge, hmap⟩ := HS.out
    have HP := Lib.hid hpart
    have HBd := Lib.hid hbd
    have HM := Lib.hid hmap
    have HGe := Lib.hid hge
    obtain ⟨Ap, cp, hpv, hcp, _, hpa⟩ := own_sets hbd.2 (v := u11) (l := l) (by simp)
    subst hpv
    have h40 := hpart.n40
    have hkl := hpart.le
    clear HS hpart hbd hmap hge
    by_cases hlt : k < l.length
    · as_aux_lemma =>
      obtain ⟨x, hxy⟩ : ∃ q, l[k]? = some q := ⟨_, List.getElem?_eq_getElem hlt⟩
      obtain ⟨adp, hAp, hadp, hp0⟩ := hpa.at_ hxy
      subst hAp
      have HXY := Lib.hid hxy
      have HRx := Lib.hid (HP.out.rch x (List.mem_of_getElem? hxy))
      obtain ⟨HRS, hown⟩ := HBd.out
      have HRS := Lib.hid HRS
      have HO1 := Lib.hid hown
      clear hown hpa hxy HBd
      go_wp2_with (at_make; refine mk_ints rfl _ _ rfl n rfl rfl (by omega) ?_)
      intro w4 hn4
      have hO4 := HO1.out.join (Own.of_nums hn4)
      have HR0 : Hid (EIn 89 KS eSets S fin n [] wb w4 g gr gm (wr.heap.size) k l x 0 nv fv rs (.slice (some adp) l.length cp)) := by
        unfold Hid EIn
        rw [prow_zero, List.take_zero]
        exact ⟨hO4.re [5, 0, 1, 2, 3, 4] 6 rfl (by decide), HGe.out, HM.out.on hn4.2.1 HM.out.lt⟩
      clear hO4 hn4 HO1 hadp hp0 HM
      generalize wr.heap.size = gw at *
      go_wp2
      go_loopw [11, 46] (fun pv i wi => ∃ (q : Nat), q ≤ n ∧ i = .int .i64 q ∧ Hid (EIn 89 KS eSets S fin n [] wb wi g gr gm gw k l x q nv fv rs pv)) (fun _ i _ => n - (intOf i).toNat)
      case atStart => exact ⟨0, by omega, rfl, HR0⟩
      case round =>
        clear HR0
        obtain ⟨q, hq, rfl, HR⟩ := hrel
        by_cases hqn : q < n
        · as_aux_lemma =>
          obtain ⟨t, hT⟩ : ∃ t, (S x)[q]? = some t := ⟨_, List.getElem?_eq_getElem (by rw [HSn.out]; exact hqn)⟩
          have HT := Lib.hid hT
          have hbi := HB0.out.trans (HR.out.1.below.mono HB0.out.size)
          have HCall := Lib.hid (HN.out x HRx.out q t hT wr hbi)
          have HRt : Hid (Rch S x0 t) := .next HRx.out (List.mem_of_getElem? hT)
          obtain ⟨kl, hkl2⟩ := KS_key t (HLim.out t HRt.out)
          have HKl := Lib.hid hkl2
          have hlc : (addAll l ((S x).take q)).length ≤ 1048576 := by
            have e1 := addAll_length_le l ((S x).take q)
            rw [List.length_take] at e1
            omega
          have hpl := prow_length (l := l) (HSn.out x) hq
          obtain ⟨old, hold⟩ : ∃ old, (prow S l x n q)[q]? = some old := ⟨_, List.getElem?_eq_getElem (by omega)⟩
          have HPL : Hid ((prow S l x n q).length = n ∧ (prow S l x n q)[q]? = some old) := ⟨hpl, hold⟩
          obtain ⟨ho, _, hm⟩ := HR.out
          obtain ⟨cur, hcur⟩ : ∃ cur, cur = addAll l ((S x).take q) := ⟨_, rfl⟩
          have HCur := Lib.hid hcur
          rw [← hcur] at ho hm hlc
          obtain ⟨A', c', hv', hlc', hcm', _⟩ := own_sets ho (v := u11) (l := cur) (by simp)
          subst hv'
          have HO := Lib.hid ho
          have HM := Lib.hid hm
          clear hT hbi hkl2 hpl hold ho hm hcur HR
          go_wp2_with fail
          refine HCall.out.mono ?_
          rintro e w5 ⟨rfl, hb⟩
          have HO := Lib.hid (HO.out.on hb)
          have HM := Lib.hid (HM.out.on hb HM.out.lt)
          clear hb HCall
          obtain ⟨hw1, hw2⟩ := own_ints_cell HO.out (List.mem_append_left _ (List.mem_cons_of_mem _ List.mem_cons_self)) HPL.out.1 HPL.out.2
          by_cases hmem : t ∈ cur
          · as_aux_lemma =>
            have HX : Hid (some ((num cur t : Nat) : Int) = xf cur t) := (xf_at hmem).symm
            have HX2 : Hid (((num cur t : Nat) : Int) = (xf cur t).getD 0) := by rw [Hid, xf_at hmem]; rfl
            have HPut := Lib.hid (EIn.put (z := num cur t) (by rw [← HCur.out]; exact addTo_old hmem) HT.out hqn HPL.out.1 HO.out HGe.out HM.out rfl)
            clear hmem HCur HPL HO HRt
            generalize num cur t = z at *
            go_wp2_with (first | (at_lookup; refine wp_look_ok HM.out keyedS Tryz.underlying134 elem_int (by rfl) _ _ (by rfl) (by rfl) (a := t) (by rfl) HKl.out HX.out ?_) | (at_lookup; refine wp_look_is HM.out keyedS Tryz.underlying134 elem_int (by rfl) _ _ (by rfl) (by rfl) (a := t) (by rfl) HKl.out HX2.out ?_))
            go_roundw
            case rel => exact ⟨q + 1, by omega, by go_num, HPut⟩
            case measure => simp [intOf]; omega
          · as_aux_lemma =>
            have HX : Hid (none = xf cur t) := (xf_no hmem).symm
            have HMem := Lib.hid hmem
            clear hmem hw1 hw2
            go_wp2_with (first | (at_lookup; refine wp_look_ok HM.out keyedS Tryz.underlying134 elem_int (by rfl) _ _ (by rfl) (by rfl) (a := t) (by rfl) HKl.out HX.out ?_) | (at_mapUpdate; refine wp_store HM.out keyedS Tryz.underlying134 elem_int (by omega) KS_inj (by rfl) _ _ _ (by rfl) (by rfl) (a := t) (by rfl) HKl.out (x := ((cur.length : Nat) : Int)) (by rfl) (wf_of ⟨by omega, by omega⟩) (m' := cur.length + 1) (by rw [← HX.out]; rfl) ?_))
            intro w6 ht6 hm6
            have ho6 := own_put HO.out HGe.out HM.out ht6
            rw [xf_new HMem.out] at hm6
            obtain ⟨ob, hob⟩ := hm6.isMap
            have HO6 := Lib.hid ho6
            have HIm := Lib.hid hob
            have HM6 := Lib.hid hm6
            have hlc2 : cur.length < 1099511627776 := by omega
            clear ht6 ho6 hob hm6 HM HX HO
            go_wp2_with (at_builtin; refine own_set_g (p := t) (by rfl) _ _ (by rfl) (by rfl) HO6.out HIm.out (by rfl) hlc2 ?_)
            intro g8 cap8 w8 ho8 him8
            have hm8 := map_same HM6.out HIm.out him8
            have HX8 : Hid (((cur.length : Nat) : Int) = (xf (cur ++ [t]) t).getD 0) := by rw [Hid, xf_at (by simp), idx_new HMem.out]; rfl
            have ho9 := ho8
            obtain ⟨hw1, hw2⟩ := own_ints_cell ho9 (List.mem_append_left _ (List.mem_cons_of_mem _ List.mem_cons_self)) HPL.out.1 HPL.out.2
            have HPut : Hid (EIn 89 KS eSets S fin n [] wb (w8.setCell ⟨gw, q, none⟩ (.int .i64 ((cur.length : Nat) : Int))) g gr gm gw k l x (q + 1) nv fv rs (.slice (some ⟨g8, 0, none⟩) (cur.length + 1) cap8)) := EIn.put (cur := cur ++ [t]) (t := t) (by rw [← HCur.out]; exact addTo_new HMem.out) HT.out hqn HPL.out.1 (by rw [List.map_take]; exact ho9) HGe.out (by simpa using hm8) (idx_new HMem.out)
            have HM8 := Lib.hid hm8
            clear HMem HCur HPL ho8 ho9 him8 hm8 HIm HM6 HO6 HRt
            go_wp2_with (at_lookup; refine wp_look_is HM8.out keyedS Tryz.underlying134 elem_int (by rfl) _ _ (by rfl) (by rfl) (a := t) (by rfl) HKl.out HX8.out ?_)
            go_roundw
            case rel => exact ⟨q + 1, by omega, by go_num, HPut⟩
            case measure => simp [intOf]; omega
        · as_aux_lemma =>
          obtain rfl : q = n := by omega
          obtain ⟨ho, _, hm⟩ := HR.out
          have hS' : (S x).length = q := HSn.out x
          rw [prow_full hS', List.take_of_length_le (by omega)] at ho
          rw [List.take_of_length_le (by omega)] at hm
          have HStep := Lib.hid (HP.out.step HXY.out)
          have HRow := Lib.hid (rows_next HP.out HXY.out)
          have HFlag : Hid (((addAll l (S x)).take (k + 1)).map fin = (l.take k).map fin ++ [fin x]) := flags_next (S := S) fin HXY.out
          clear HR hS' HP
          generalize hrw : (l.take k).map (srow S l) = rws at *
          generalize hbs : (l.take k).map fin = bs at *
          have HLen : Hid ((rs.map (·.1)).length < 1099511627776 ∧ bs.length < 17592186044416) := by
            have h1 := congrArg List.length HRS.out
            rw [← hrw, List.length_map, List.length_map, List.length_take] at h1
            have h2 := congrArg List.length hbs
            rw [List.length_map, List.length_take] at h2
            exact ⟨by rw [List.length_map]; omega, by omega⟩
          clear hrw hbs
          generalize hl' : addAll l (S x) = l' at *
          clear hl'
          obtain ⟨A', c', hv', hlc', hcm', _⟩ := own_sets ho (v := u11) (l := l') (by simp)
          subst hv'
          have HO := Lib.hid ho
          have HM := Lib.hid hm
          clear ho hm
          by_cases hfull : 40 < l'.length
          · as_aux_lemma =>
            have hfull' : (40 : Int) < (l'.length : Int) := by omega
            have HNo : Hid (explOut (q : Int) S x0 fin = (zeroA, 4)) := explOut_none (HStep.out.1 hfull)
            have HR2 := Lib.hid (HO.out.pull 5 (by simp))
            obtain ⟨hr0, hf0⟩ := HR2.out.dcell (g := gr) (l := zero4) (j := 0) (by simp) rfl
            obtain ⟨hr1, hf1⟩ := HR2.out.dcell (g := gr) (l := zero4) (j := 1) (by simp) rfl
            obtain ⟨hr2, hf2⟩ := HR2.out.dcell (g := gr) (l := zero4) (j := 2) (by simp) rfl
            obtain ⟨hr3, hf3⟩ := HR2.out.dcell (g := gr) (l := zero4) (j := 3) (by simp) rfl
            have HEnd := Lib.hid (res_bad HR2.out rfl)
            clear HR2 HO HM
            go_wp2
            obtain ⟨k2, k3, k4, k5, k6⟩ := HEnd.out
            refine bodyPost_ret (results_dfa rfl _ rfl k3 k4 k5 k6) rfl ⟨_, by rw [HNo.out]; rfl, by rw [HNo.out]; exact dfaOwn_zero (HB0.out.trans (k2.mono HB0.out.size))⟩
          · as_aux_lemma =>
            have hfull' : ¬ (40 : Int) < (l'.length : Int) := by omega
            have HPn := Lib.hid (HStep.out.2 hfull)
            have HR2 := Lib.hid (HO.out.pull 2 (by simp))
            obtain ⟨ob, hob⟩ := HM.out.isMap
            have HIm := Lib.hid hob
            obtain ⟨hg2, hgf2⟩ := HO.out.dcell (g := g) (l := [.int .i64 (q : Int), .int .i64 0, nv, fv]) (j := 2) (by simp) rfl
            clear HStep HO hob
            go_wp2_with (at_builtin; refine own_row_g (by rfl) _ _ (by rfl) (by rfl) HR2.out HIm.out (by rfl) (by rfl) HLen.out.1 ?_)
            intro g8 cap8 w8 ho8 him8
            have hlr : rs.length = (rs.map (·.1)).length := (List.length_map _).symm
            have HB9 : Hid (Build wb (w8.setCell ⟨g, 2, none⟩ (.slice (some ⟨g8, 0, none⟩) (rs.length + 1) cap8)) g [eDfa gr zero4, eSets (.slice A' l'.length c') l'] (q : Int) 0 (rws ++ [srow S l' x]) bs (.slice (some ⟨g8, 0, none⟩) (rs.length + 1) cap8) fv (rs ++ [(.slice (some ⟨gw, 0, none⟩) q q, srow S l' x)])) :=
              build_row HRS.out (ho8.re [0, 2, 3, 4, 5, 1] 6 rfl (by decide)) rfl
            have HIm9 := Lib.hid (isMap_set (t := 26) (sz := 4) (n := 1) (cap := 1) (g := g) (xs := [.int .i64 (q : Int), .int .i64 0, nv, fv]) him8 ho8 (by simp [eDfa]) 2 (.slice (some ⟨g8, 0, none⟩) (rs.length + 1) cap8))
            obtain ⟨hk8, hf8⟩ := ho8.dcell (g := g) (l := [.int .i64 (q : Int), .int .i64 0, nv, fv]) (j := 2) (by simp) rfl
            rw [← HRow.out] at HB9
            clear ho8 him8 hg2 hgf2 HR2 hlr
            go_wp2_with fail
            generalize hw9 : w8.setCell ⟨g, 2, none⟩ (.slice (some ⟨g8, 0, none⟩) (rs.length + 1) cap8) = w9 at *
            generalize (Value.slice (some ⟨g8, 0, none⟩) (rs.length + 1) cap8) = nv9 at *
            generalize (rs ++ [(Value.slice (some ⟨gw, 0, none⟩) q q, srow S l' x)]) = rs9 at *
            generalize hr9 : (l'.take (k + 1)).map (srow S l') = rws9 at *
            have HR9 := Lib.hid hr9
            clear hr9 hk8 hf8 hw9
            have HK : Hid (∀ W es fs, Own wb W es fs → eDfa g [.int .i64 (q : Int), .int .i64 0, nv9, fv] ∈ es ++ fs → W.cell? ⟨g, 3, none⟩ = some fv) := fun W es fs hW hm =>
              (hW.dcell hm rfl).1
            have HO9 := Lib.hid HB9.out.2.two
            have HFc := Lib.hid (HF.out x HRx.out w9.drew (HB0.out.trans ((HB9.out.2.on (Below.refl _ _).drew).below.mono HB0.out.size)))
            refine wp_region_Z ((fun W => W.cell? ⟨g, 3, none⟩ = some fv)) 8 (by kernel_rfl) (HK.out _ _ _ (HB9.out.2.on (by go_grown)) (by simp)) (fun hHeld => ?_)
            refine wpZ_take (i := 0) (v := ?_) rfl (by kernel_rfl) (by kernel_rfl) (by kernel_rfl) (by kernel_rfl) (fun _ _ _ h => h) (Or.inl ⟨by rfl, ?_⟩) hHeld ?_
            rotate_left
            · (go_light; intro w9 hSw; (try dsimp only at hSw); go_simp; try with_reducible rfl)
            try simp only [Act.put, List.setIfInBounds_toArray, List.set_cons_zero, List.set_cons_succ]
            refine wpZ_take (i := 1) (v := ?_) rfl (by kernel_rfl) (by kernel_rfl) (by kernel_rfl) (by kernel_rfl) (fun _ _ _ h => h) (Or.inl ⟨by rfl, ?_⟩) hHeld ?_
            rotate_left
            · (go_light; intro w9 hSw; (try dsimp only at hSw); go_simp; try with_reducible rfl)
            try simp only [Act.put, List.setIfInBounds_toArray, List.set_cons_zero, List.set_cons_succ]
            refine wpZ_take (i := 2) (v := ?_) rfl (by kernel_rfl) (by kernel_rfl) (by kernel_rfl) (by kernel_rfl) (fun _ _ _ h => h) (Or.inl ⟨by rfl, ?_⟩) hHeld ?_
            rotate_left
            · (go_light; intro w9 hSw; (try dsimp only at hSw); go_simp; try with_reducible rfl)
            try simp only [Act.put, List.setIfInBounds_toArray, List.set_cons_zero, List.set_cons_succ]
            refine wpZ_take (i := 3) (v := ?_) rfl (by kernel_rfl) (by kernel_rfl) (by kernel_rfl) (by kernel_rfl) (fun _ _ _ h => h) (Or.inl ⟨by rfl, ?_⟩) hHeld ?_
            rotate_left
            · (go_light; intro w9 hSw; (try dsimp only at hSw); go_simp; try with_reducible rfl)
            try simp only [Act.put, List.setIfInBounds_toArray, List.set_cons_zero, List.set_cons_succ]
            refine wpZ_one (i := 4) rfl (by kernel_rfl) (fun K hK => ?_)
            go_simp
            refine HFc.out.mono ?_
            rintro e w10 ⟨rfl, hb⟩
            have HO10 := Lib.hid ((HO9.out.on (Below.refl _ _).drew).on hb)
            have HIm10 := Lib.hid ((HIm9.out.on (Below.refl _ _).drew).on hb)
            clear hb
            try simp only []
            refine hK.out _ _ (fun _ => HK.out _ _ _ HO10.out (by simp)) (fun hHeld9 => ?_)
            replace hHeld := hHeld9 (by decide)
            clear hHeld9
            clear hK K
            try simp only [Act.put, List.setIfInBounds_toArray, List.set_cons_zero, List.set_cons_succ]
            refine wpZ_one (i := 5) rfl (by kernel_rfl) (fun K hK => ?_)
            go_simp
            refine hK.out _ _ (fun _ => HK.out _ _ _ (HO10.out.alloc _) (by simp)) (fun hHeld9 => ?_)
            replace hHeld := hHeld9 (by decide)
            clear hHeld9
            clear hK K
            try simp only [Act.put, List.setIfInBounds_toArray, List.set_cons_zero, List.set_cons_succ]
            refine wpZ_one (i := 6) rfl (by kernel_rfl) (fun K hK => ?_)
            refine step_own_bool_g (by rfl) _ _ (by rfl) (by rfl) HO10.out HIm10.out (by rfl) HLen.out.2 ?_
            intro g11 cap11 w11 ho11 him11
            refine hK.out _ _ (fun _ => HK.out _ _ _ ho11 (by simp)) (fun hHeld9 => ?_)
            replace hHeld := hHeld9 (by decide)
            clear hHeld9
            clear hK K
            try simp only [Act.put, List.setIfInBounds_toArray, List.set_cons_zero, List.set_cons_succ]
            refine wpZ_take (i := 7) (v := ?_) rfl (by kernel_rfl) (by kernel_rfl) (by kernel_rfl) (by kernel_rfl) (fun _ _ _ h => h) (Or.inl ⟨by rfl, ?_⟩) hHeld ?_
            rotate_left
            · (go_light; intro w9 hSw; (try dsimp only at hSw); go_simp; try with_reducible rfl)
            try simp only [Act.put, List.setIfInBounds_toArray, List.set_cons_zero, List.set_cons_succ]
            refine wpZ_one (i := 8) rfl (by kernel_rfl) (fun K hK => ?_)
            have hk4 := (ho11.dcell (g := g) (l := [.int .i64 (q : Int), .int .i64 0, nv9, fv]) (j := 3) (by simp) rfl).2
            go_simp
            refine hK.out _ _ (fun k => absurd rfl k) (fun _ => ?_)
            clear hK K
            try simp only [Act.put, List.setIfInBounds_toArray, List.set_cons_zero, List.set_cons_succ]
            refine wpZ_done (by kernel_rfl) ?_ _
            have HBf := build_flag HB9.out.1 ho11 rfl
            have him12 := isMap_set (t := 26) (sz := 4) (n := 1) (cap := 1) (g := g) (xs := [.int .i64 (q : Int), .int .i64 0, nv9, fv]) him11 ho11 (by simp [eDfa]) 3 (.slice (some ⟨g11, 0, none⟩) (bs.length + 1) cap11)
            have HN1 : Hid (EOut 89 KS eSets S x0 fin q wb (w11.setCell ⟨g, 3, none⟩ (.slice (some ⟨g11, 0, none⟩) (bs.length + 1) cap11)) g gr gm (k + 1) (.slice A' l'.length c')) := by
              refine ⟨l', nv9, .slice (some ⟨g11, 0, none⟩) (bs.length + 1) cap11, rs9, HPn.out, ?_, HGe.out, map_same HM.out HIm.out him12⟩
              rw [HFlag.out, HR9.out]
              exact HBf
            clear HBf ho11 him11 him12 HB9 HO9 HO10 HIm10 HIm9 HIm HM HK hk4 hHeld HFc
            go_wp2
            go_roundw
            case rel => exact ⟨k + 1, by omega, by go_num, HN1⟩
            case measure => simp [intOf]; omega
    · as_aux_lemma =>
      obtain rfl : k = l.length := by omega
      have HNo : Hid (explOut (n : Int) S x0 fin = (⟨(n : Int), 0, l.map (srow S l), l.map fin⟩, 0)) := explOut_some (HP.out.stop (Nat.le_refl _))
      rw [List.take_length] at HBd
      have HSm := Lib.hid (srow_small S l (by omega))
      clear HP hpa HM
      generalize l.map (srow S l) = rows at *
      generalize l.map fin = bs at *
      obtain ⟨A2, c2, F2, cf2, e1, e2⟩ := HBd.out.form
      obtain ⟨hg0, hg1, hg2, hg3⟩ := HBd.out.str
      obtain ⟨hr0, hf0⟩ := HBd.out.res (j := 0) (by omega)
      obtain ⟨hr1, hf1⟩ := HBd.out.res (j := 1) (by omega)
      obtain ⟨hr2, hf2⟩ := HBd.out.res (j := 2) (by omega)
      obtain ⟨hr3, hf3⟩ := HBd.out.res (j := 3) (by omega)
      subst e1 e2
      have HEnd := Lib.hid (build_end HBd.out HSm.out ⟨by omega, by omega⟩ ⟨by omega, by omega⟩ rfl)
      generalize rows.length = nr at *
      generalize bs.length = nb at *
      go_wp2
      obtain ⟨k1, k3, k4, k5, k6⟩ := HEnd.out
      refine bodyPost_ret (results_dfa rfl _ rfl k3 k4 k5 k6) rfl ⟨_, by rw [HNo.out]; rfl, by rw [HNo.out]; exact k1.base HB0.out⟩
end Go.Proofs.YtloihkoamccacaaGreatDoor.Df
