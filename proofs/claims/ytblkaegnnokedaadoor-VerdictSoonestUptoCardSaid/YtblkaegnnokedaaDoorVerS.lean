/- The walks of package verdict's settled, Soonest and Watch. -/
import Derived.Test.YtblkaegnnokedaaDoorVerW
import Derived.Test.YtblkaegnnokedaaDoorFirst
namespace Go.Proofs.YtblkaegnnokedaaDoor.Ve
open Go.RowKit Go.IntWalk Go.Proofs.YtblkaegnnokedaaDoor.Wd Go.Proofs.YtblkaegnnokedaaDoor.Wo Go.Proofs.YtblkaegnnokedaaDoor.Df Go.Proofs.YtblkaegnnokedaaDoor.Rc Go.Proofs.YtblkaegnnokedaaDoor.Sm Go.Proofs.YtblkaegnnokedaaDoor.Mp Go.Proofs.YtblkaegnnokedaaDoor.Sa

theorem sett_fins {d : Aut} (g : Df.Good d) : (List.range d.fin.length).map (settled d) = (settA d).fin := by rw [g.fin]; rfl
set_option linter.unusedSimpArgs false in
set_option maxRecDepth 100000 in
set_option maxHeartbeats 4000000 in
theorem settled_any (v : Value) (d : Aut) (w : World) (h : DfaAt w w.heap.size v d) :
    Calls Tryd.prog 28 #[v] w fun e w' => Hid (∃ x, e = .returned (.tuple #[x, errV (mkO settA d).2]) ∧ DfaOwn w w' x (mkO settA d).1) := by
  have HV := h
  obtain ⟨L, s, A, c, F, cf, rfl, h⟩ := h
  obtain ⟨w1, hw1, hB1, hX, hd1⟩ := box_dfa w h
  have HB := Lib.hid hB1
  have HW := Lib.hid hw1
  have hres := below_alloc w1 (.cells #[.int .i64 0, .int .i64 0, .slice none 0 0, .slice none 0 0] 25)
  have HX := Lib.hid (hX.on hres)
  have hc0 := HX.out.c0
  have hc1 := HX.out.c1
  have hc2 := HX.out.c2
  have hc3 := HX.out.c3
  have HO := Lib.hid ((own_start w1).dfa (.int .i64 0) (.int .i64 0) (.slice none 0 0) (.slice none 0 0))
  have HV := Lib.hid ((HV.on hB1).on hres)
  have hsz : w1.heap.size = w.heap.size + 1 := by rw [hw1]; simp
  rw [hsz] at HO
  rcases g1 : dchk d with _ | e0
  · have HG := Lib.hid (dchk_iff.1 g1)
    have HC := Lib.hid (copy_ok _ d _ HV.out g1)
    have HVs := Lib.hid (fun v W (hA : DfaAt W W.heap.size v d) => verdicts_any v d W hA)
    rw [verR_ok g1] at HVs
    have hm0 : 0 < d.fin.length := by have := HG.out.fin; have := HG.out.n1; omega
    have hmn : d.fin.length = d.next.length := HG.out.fin
    have hn4 : d.next.length ≤ 40 := HG.out.n40
    have hvl := verL_length d
    clear h hd1 hw1 hX hB1 hres hsz g1
    obtain ⟨n, hn⟩ : ∃ n, d.next.length = n := ⟨_, rfl⟩
    rw [hmn] at hm0 hc3 HC HW HV HX
    rw [hn] at hn4 hc2 HC HW hm0 hc3 HV HX hvl
    rw [hmn, hn]
    have HM := Lib.hid hmn
    have HN := Lib.hid hn
    clear hmn hn
    go_enter Tryd.func28, Tryd.ntmps28
    go_wp2_with fail
    rw [← HW.out]
    refine HC.out.mono ?_
    rintro e w2 he
    obtain ⟨x, rfl, nv, fv, rs, rfl, hrs, hown, hsm, hL, hS⟩ := he.out
    have HFl := Lib.hid (flags_new HO.out hown)
    obtain ⟨gf, cap, hfv⟩ := owns_some (hown.each _ (List.mem_cons_of_mem _ List.mem_cons_self)) (by show 0 < d.fin.length; rw [HM.out, HN.out]; exact hm0)
    obtain ⟨An, cn, hnv, _⟩ := hown.form (e := eRows nv (rs.map (·.1))) (by simp)
    change fv = .slice (some ⟨gf, 0, none⟩) d.fin.length cap at hfv
    rw [HM.out, HN.out] at hfv
    have hrl : rs.length = n := by rw [← HN.out, hrs, List.length_map]
    change nv = .slice An (rs.map (·.1)).length cn at hnv
    rw [List.length_map, hrl] at hnv
    subst hfv hnv
    have HSm := Lib.hid hsm
    have HLS := Lib.hid (And.intro hL hS)
    have HR := Lib.hid hrs
    have hb1 := hown.below.trans ((below_alloc w2 (.cells #[.int .i64 d.L, .int .i64 d.s, .slice An n cn, .slice (some ⟨gf, 0, none⟩) n cap] 25)).mono hown.below.size)
    have HX := Lib.hid (HX.out.on hb1)
    have HV := Lib.hid (HV.out.on hb1)
    clear he hown hsm hL hS hrs HC hc0 hc1 hc2 hc3 HO hrl hb1
    obtain ⟨w3, hw3⟩ : ∃ w3, w3 = w2.alloc (.cells #[.int .i64 d.L, .int .i64 d.s, .slice An n cn, .slice (some ⟨gf, 0, none⟩) n cap] 25) := ⟨_, rfl⟩
    rw [← hw3] at HFl HX HV
    have HW3 := Lib.hid hw3
    have hc0 := HX.out.c0
    have hc1 := HX.out.c1
    have hc2 := HX.out.c2
    have hc3 := HX.out.c3
    rw [hw3] at hc0 hc1 hc2 hc3
    clear hw3
    go_wp2_with fail
    rw [← HW3.out]
    generalize hgg : w2.heap.size = g at *
    clear HW3 hgg
    refine (HVs.out _ _ HV.out).mono ?_
    rintro e w4 he
    obtain ⟨wv, h1, ho⟩ := he.out
    obtain ⟨AA, cA, h2, _⟩ := own_ints_at ho (List.mem_append_right _ List.mem_cons_self) (verL_small d)
    subst h2
    have h1 : e = .returned (.tuple #[.slice AA (verL d).length cA, .nilIface]) := h1
    subst h1
    have hj := HFl.out.join ho
    have HS : Hid (Flags w1 w4 g (w.heap.size + 1) d.L d.s (.slice An n cn) (.slice (some ⟨gf, 0, none⟩) n cap) (flipTo (settled d) d.fin 0) rs [eInts (.slice AA n cA) (verL d)]) := by
      rw [flip_zero]; rw [hvl] at hj; exact hj
    rw [hvl]
    have HVL := Lib.hid hvl
    clear he ho hj HVs HFl hc0 hc1 hc2 hc3 HX HV hvl
    go_wp2
    go_loopw [29] (fun i wr => ∃ (k : Nat), k ≤ n ∧ i = .int .i64 k ∧ Hid (Flags w1 wr g (w.heap.size + 1) d.L d.s (.slice An n cn) (.slice (some ⟨gf, 0, none⟩) n cap) (flipTo (settled d) d.fin k) rs [eInts (.slice AA n cA) (verL d)])) (fun i _ => n - (intOf i).toNat)
    case atStart => exact ⟨0, by omega, rfl, HS⟩
    case round =>
      clear HS
      obtain ⟨k, hk, rfl, HS⟩ := hrel
      by_cases hlt : k < n
      · have hkn : k < d.next.length := by rw [HN.out]; exact hlt
        have hkl : k < d.fin.length := by rw [HM.out, HN.out]; exact hlt
        have hlen : (flipTo (settled d) d.fin k).length = n := by rw [flip_length (by omega), HM.out, HN.out]
        obtain ⟨hc, hz⟩ := flags_cell HS.out hlen (flip_get (f := settled d) hkl)
        have hg3 := HS.out.cell (j := 3) rfl
        have HN2 : Hid (Flags w1 (wr.setCell ⟨gf, k, none⟩ (.bool (isSet (verd d k)))) g (w.heap.size + 1) d.L d.s (.slice An n cn) (.slice (some ⟨gf, 0, none⟩) n cap) (flipTo (settled d) d.fin (k + 1)) rs [eInts (.slice AA n cA) (verL d)]) := by
          rw [← flip_set hkl]
          exact flags_set HS.out hlen k _
        have hI0 : IntsAt wr wr.heap.size AA (verL d) := own_ints_is HS.out (List.mem_append_right _ List.mem_cons_self) HVL.out (verL_small d)
        obtain ⟨ada, rfl, hab, hac, _⟩ := hI0.get (verL_at hkn)
        have e1 : (k : Int) < (n : Int) := by omega
        have hvk : verd d k = 0 ∨ verd d k = 1 ∨ verd d k = 2 ∨ verd d k = 3 := by have := verd_le d k; omega
        clear HS hlen hI0 hab
        generalize d.fin[k] = b at *
        generalize verd d k = x at *
        rcases hvk with rfl | rfl | rfl | rfl
        all_goals as_aux_lemma =>
          simp only [isSet, Nat.reduceBEq, Bool.or_true, Bool.true_or, Bool.or_false, Bool.or_self] at HN2
          go_wp2
          go_roundw
          case rel => exact ⟨k + 1, by omega, by go_num, HN2⟩
          case measure => simp [intOf]; omega
      · obtain rfl : k = n := by omega
        have hg0 := HS.out.cell (j := 0) rfl
        have hg1 := HS.out.cell (j := 1) rfl
        have hg2 := HS.out.cell (j := 2) rfl
        have hg3 := HS.out.cell (j := 3) rfl
        obtain ⟨hr0, hf0⟩ := HS.out.res (j := 0) rfl
        obtain ⟨hr1, hf1⟩ := HS.out.res (j := 1) rfl
        obtain ⟨hr2, hf2⟩ := HS.out.res (j := 2) rfl
        obtain ⟨hr3, hf3⟩ := HS.out.res (j := 3) rfl
        have HEnd := Lib.hid (flags_end HS.out HSm.out HLS.out.1 HLS.out.2 rfl)
        rw [flip_all (by rw [HM.out, HN.out]; exact Nat.le_refl _)] at HEnd
        have hfl : (List.range k).map (settled d) = (settA d).fin := by rw [← sett_fins HG.out, HM.out, HN.out]
        rw [hfl, ← HR.out] at HEnd
        have HNo : Hid (mkO settA d = (settA d, 0)) := mkO_ok HG.out
        clear HS hfl
        go_wp2
        obtain ⟨k1, k3, k4, k5, k6⟩ := HEnd.out
        exact bodyPost_ret (results_dfa rfl _ rfl k3 k4 k5 k6) rfl ⟨_, by rw [HNo.out]; rfl, by rw [HNo.out]; exact k1.base HB.out⟩
  · have HC := Lib.hid (copy_bad _ d _ HV.out g1)
    have HNo : Hid (mkO settA d = (zeroA, e0 + 1)) := by unfold Hid; rw [mkO_bad (by omega), g1]
    clear h hd1 hw1 hX hB1 hsz g1
    generalize d.next.length = n at *
    generalize d.fin.length = m at *
    generalize hE : ((e0 + 1 : Nat) : Int) = E at *
    have HE := Lib.hid hE
    clear hE
    go_enter Tryd.func28, Tryd.ntmps28
    go_wp2_with fail
    rw [← HW.out]
    refine HC.out.mono ?_
    rintro e w2 ⟨he, hb⟩
    obtain rfl : e = .returned (.tuple #[.agg #[.int .i64 0, .int .i64 0, .slice none 0 0, .slice none 0 0], errI E]) := he.out
    have HO2 := Lib.hid ((HO.out.on hb).alloc (.cells #[.int .i64 0, .int .i64 0, .slice none 0 0, .slice none 0 0] 25))
    obtain ⟨hr0, hf0⟩ := HO2.out.dcell (g := w.heap.size + 1) (l := zero4) (j := 0) (by simp) rfl
    obtain ⟨hr1, hf1⟩ := HO2.out.dcell (g := w.heap.size + 1) (l := zero4) (j := 1) (by simp) rfl
    obtain ⟨hr2, hf2⟩ := HO2.out.dcell (g := w.heap.size + 1) (l := zero4) (j := 2) (by simp) rfl
    obtain ⟨hr3, hf3⟩ := HO2.out.dcell (g := w.heap.size + 1) (l := zero4) (j := 3) (by simp) rfl
    clear hb HC hc0 hc1 hc2 hc3 hres he HX HV
    have HEnd := Lib.hid (res_bad HO2.out rfl)
    go_wp2
    obtain ⟨k2, k3, k4, k5, k6⟩ := HEnd.out
    exact bodyPost_ret (results_dfa rfl _ rfl k3 k4 k5 k6) rfl ⟨_, by rw [HNo.out, errV_succ, HE.out]; rfl, by rw [HNo.out]; exact dfaOwn_zero (HB.out.trans (k2.mono HB.out.size))⟩
/-! ### Soonest -/
def soonOut (d : Aut) (z : List Int) : List Int × Nat := if accErr d z = 0 then (match soon d (runA d d.s.toNat z) with | some u => (u, 0) | none => ([], 5)) else ([], accErr d z)
theorem soonOut_some {d : Aut} {z u : List Int} (h : accErr d z = 0) (hu : soon d (runA d d.s.toNat z) = some u) : soonOut d z = (u, 0) := by unfold soonOut; rw [if_pos h, hu]
theorem soonOut_none {d : Aut} {z : List Int} (h : accErr d z = 0) (hu : soon d (runA d d.s.toNat z) = none) : soonOut d z = ([], 5) := by unfold soonOut; rw [if_pos h, hu]
theorem soonOut_bad {d : Aut} {z : List Int} (h : accErr d z ≠ 0) : soonOut d z = ([], accErr d z) := if_neg h
theorem first_from {D : Aut} (g : Df.Good D) {s : Nat} (hs : s < D.next.length) : firstW (fromA D s) s = firstW D s := by
  rcases h : firstW D s with _ | u
  · exact firstW_is_none (fromA_good g hs) (by exact hs) fun v hv => firstW_none g hs h hv
  · obtain ⟨h1, _, h3, h4⟩ := firstW_some g hs h
    exact firstW_unique (fromA_good g hs) (by exact hs) h1 h3 h4
theorem soonOut_first {d : Aut} {z : List Int} (h : accErr d z = 0) : firstOut (fromA (settA d) (runA d d.s.toNat z)) = soonOut d z := by
  obtain ⟨hg, hf⟩ := accErr_good h
  have hl := hg.run_lt (fine_word hf) hg.s_lt
  have gs := sett_good hg
  have gf := fromA_good gs (q := runA d d.s.toNat z) (by exact hl)
  have e : firstW (fromA (settA d) (runA d d.s.toNat z)) (fromA (settA d) (runA d d.s.toNat z)).s.toNat = soon d (runA d d.s.toNat z) := first_from gs (by exact hl)
  rcases hs : soon d (runA d d.s.toNat z) with _ | u
  · rw [firstOut_none (dchk_iff.2 gf) (e.trans hs), soonOut_none h hs]
  · rw [firstOut_some (dchk_iff.2 gf) (e.trans hs), soonOut_some h hs]
theorem soonOut_small (d : Aut) (z : List Int) : ∀ x ∈ (soonOut d z).1, Small x := by
  by_cases h : accErr d z = 0
  · rw [← soonOut_first h]; exact firstOut_small _
  · rw [soonOut_bad h]; intro x hx; simp at hx
set_option maxRecDepth 100000 in
set_option maxHeartbeats 2000000 in
theorem soonest_any (v : Value) (d : Aut) (Z : Option Addr) (cz : Nat) (z : List Int) (w : World) (h : DfaAt w w.heap.size v d) (hZ : IntsAt w w.heap.size Z z) (hz : z.length ≤ 17592186044416) :
    Calls Tryd.prog 17 #[v, .slice Z z.length cz] w fun e w' => Hid (IntsR (soonOut d z) w e w') := by
  have HV := h
  obtain ⟨L, s, A, c, F, cf, rfl, h⟩ := h
  obtain ⟨w1, hw1, hB1, hX, hd1⟩ := box_dfa w h
  have HR0 := Lib.hid (run_any _ d s Z cz z w1 (HV.on hB1) h.hs (hZ.on hB1) hz)
  have HB := Lib.hid hB1
  have HX := Lib.hid hX
  have HW := Lib.hid hw1
  have HV := Lib.hid (HV.on hB1)
  have hc0 := hX.c0
  have hc1 := hX.c1
  have hc2 := hX.c2
  have hc3 := hX.c3
  have he := runErr_start d z
  rw [h.es] at he
  rcases g : accErr d z with _ | e0
  · obtain ⟨hg, hf⟩ := accErr_good g
    rw [g] at he
    have HO : Hid (firstOut (fromA (settA d) (runA d s.toNat z)) = soonOut d z) := by unfold Hid; rw [← soonOut_first g, h.es]
    have hlt : runA d s.toNat z < d.next.length := hg.run_lt (fine_word hf) (by have := hg.s_lt; rw [h.es] at this; exact this)
    have hro : runOut d s z = ((runA d s.toNat z : Nat) : Int) := by unfold runOut; rw [if_pos he]
    rw [he, hro] at HR0
    have HSe := Lib.hid (fun v W (hA : DfaAt W W.heap.size v d) => settled_any v d W hA)
    rw [mkO_ok hg] at HSe
    have HFi := Lib.hid (fun v D W (hA : DfaAt W W.heap.size v D) => first_any v D W hA)
    have hy4 : runA d s.toNat z ≤ 40 := by have := hg.n40; omega
    clear h hd1 hw1 hX hB1 hg hf hro he hZ g hlt
    generalize d.next.length = n at *
    generalize runA d s.toNat z = y at *
    generalize hm : d.fin.length = m at *
    clear hm
    go_enter Tryd.func17, Tryd.ntmps17
    go_wp2_with fail
    rw [← HW.out]
    clear HW
    refine HR0.out.mono ?_
    rintro e w2 ⟨he, hb⟩
    obtain rfl : e = .returned (.tuple #[.int .i64 (y : Int), .nilIface]) := he.out
    have HX := Lib.hid (HX.out.on hb)
    have HV := Lib.hid (HV.out.on hb)
    have HB := Lib.hid (HB.out.trans (hb.mono HB.out.size))
    clear hb HR0 hc0 hc1 hc2 hc3 he
    have hc0 := HX.out.c0
    have hc1 := HX.out.c1
    have hc2 := HX.out.c2
    have hc3 := HX.out.c3
    go_wp2_with fail
    refine (HSe.out _ _ HV.out).mono ?_
    rintro e w3 he
    obtain ⟨x, h1, ho⟩ := he.out
    have hat := ho.at_
    obtain ⟨L9, s9, A9, n9, c9, F9, m9, k9, rfl⟩ := hat.form
    have h1 : e = .returned (.tuple #[.agg #[.int .i64 L9, .int .i64 s9, .slice A9 n9 c9, .slice F9 m9 k9], .nilIface]) := h1
    subst h1
    obtain ⟨w4, hw4, hbn, Vn⟩ := var_new w3 (fromA_at hat hy4)
    have HB := Lib.hid (HB.out.trans ((ho.below.trans (hbn.mono ho.below.size)).mono HB.out.size))
    have HVn := Lib.hid Vn
    have HW4 := Lib.hid hw4
    clear he ho hat hbn Vn hc0 hc1 hc2 hc3 HSe HV HX
    obtain ⟨q0, q1, q2, q3, q4⟩ := HVn.out.box
    rw [hw4] at q1 q2 q3 q4
    clear hw4
    go_wp2_with fail
    rw [← HW4.out]
    refine (HFi.out _ _ _ HVn.out.at_).mono ?_
    rintro e w5 he
    obtain ⟨wv, h1, ho⟩ := he.out
    have HE := Lib.hid (ho.base HB.out)
    rw [HO.out] at HE h1
    subst h1
    clear he ho q0 q1 q2 q3 q4 HFi
    obtain ⟨E, hE⟩ : ∃ E, errV (soonOut d z).2 = E := ⟨_, rfl⟩
    rw [hE]
    have HEE := Lib.hid hE
    clear hE
    go_wp2
    go_ret2
    exact ⟨_, by rw [HEE.out]; rfl, HE.out⟩
  · rw [g] at he
    have HO : Hid (soonOut d z = ([], e0 + 1)) := by unfold Hid; rw [soonOut_bad (by omega), g]
    have hro : runOut d s z = 0 := by unfold runOut; rw [if_neg (by omega)]
    rw [he, hro, errV_succ] at HR0
    clear h hd1 hw1 hX hB1 hro he hZ g HV
    generalize d.next.length = n at *
    generalize d.fin.length = m at *
    generalize hE : ((e0 + 1 : Nat) : Int) = E at *
    have HE := Lib.hid hE
    clear hE
    go_enter Tryd.func17, Tryd.ntmps17
    go_wp2_with fail
    rw [← HW.out]
    clear HW
    refine HR0.out.mono ?_
    rintro e w2 ⟨he, hb⟩
    obtain rfl := he.out
    have HB := Lib.hid (HB.out.trans (hb.mono HB.out.size))
    clear hb HR0 hc0 hc1 hc2 hc3 he HX
    go_wp2
    go_ret2
    exact ⟨_, by rw [HO.out, errV_succ, HE.out]; rfl, by rw [HO.out]; exact own_nil HB.out⟩
theorem soon_gives {W : World} {v : Value} {d : Aut} {Z : Option Addr} {cz : Nat} {z : List Int} (h : DfaAt W W.heap.size v d) (hZ : IntsAt W W.heap.size Z z) (hz : z.length ≤ 17592186044416) {l : List Int} {E : Value} {k : Nat} (hr : soonOut d z = (l, k)) (hE : errV k = E) :
    GivesI 17 #[v, .slice Z z.length cz] W E l := by
  have hs := soonOut_small d z
  rw [hr] at hs
  exact givesI_of (soonest_any v d Z cz z W h hZ hz) (by rw [hr]; exact hE) (by rw [hr]) hs
/-! ### Watch -/
def watchOut (d : Aut) : Bool × Nat := if dchk d = 0 then (watchB d, 0) else (false, dchk d)
theorem watchOut_ok {d : Aut} (g : Df.Good d) : watchOut d = (watchB d, 0) := if_pos (dchk_iff.2 g)
theorem watchOut_bad {d : Aut} (h : dchk d ≠ 0) : watchOut d = (false, dchk d) := if_neg h
theorem mem_upto_iff {n : Nat} {p : Nat → Bool} {x : Int} : x ∈ upto n p ↔ ∃ s, s < n ∧ p s = true ∧ x = (s : Int) := by
  unfold upto
  rw [List.mem_map]
  constructor
  · rintro ⟨t, ht, rfl⟩
    exact ⟨t, List.mem_range.1 (List.mem_filter.1 ht).1, (List.mem_filter.1 ht).2, rfl⟩
  · rintro ⟨t, h1, h2, rfl⟩
    exact ⟨t, List.mem_filter.2 ⟨List.mem_range.2 h1, h2⟩, rfl⟩
theorem watch_mem (d : Aut) : watchB d = true ↔ ∀ x ∈ upto (settA d).next.length (isReached (settA d) (settA d).s.toNat), x ∈ upto (settA d).next.length (isAlive (settA d)) := by
  unfold watchB
  rw [List.all_eq_true]
  constructor
  · intro h x hx
    obtain ⟨s, hs, h2, rfl⟩ := mem_upto_iff.1 hx
    have h3 := h s (List.mem_range.2 hs)
    have h2 : isReached d d.s.toNat s = true := h2
    rw [h2] at h3
    exact mem_upto_iff.2 ⟨s, hs, by simpa using h3, rfl⟩
  · intro h s hs
    have hs := List.mem_range.1 hs
    rcases hr : isReached d d.s.toNat s with _ | _
    · rfl
    · obtain ⟨t, _, h3, e⟩ := mem_upto_iff.1 (h (s : Int) (mem_upto_iff.2 ⟨s, hs, hr, rfl⟩))
      obtain rfl : t = s := by omega
      rw [h3]; rfl
set_option maxRecDepth 100000 in
set_option maxHeartbeats 2000000 in
theorem watch_any (v : Value) (d : Aut) (w : World) (h : DfaAt w w.heap.size v d) :
    Calls Tryd.prog 9 #[v] w fun e w' => Hid (e = .returned (.tuple #[.bool (watchOut d).1, errV (watchOut d).2])) ∧ Below w.heap.size w w' := by
  have HV := h
  obtain ⟨L, s, A, c, F, cf, rfl, h⟩ := h
  obtain ⟨w1, hw1, hB1, hX, hd1⟩ := box_dfa w h
  have HB := Lib.hid hB1
  have HW := Lib.hid hw1
  have HV := Lib.hid (HV.on hB1)
  have hc0 := hX.c0
  have hc1 := hX.c1
  have hc2 := hX.c2
  have hc3 := hX.c3
  have HSe := Lib.hid (fun v W (hA : DfaAt W W.heap.size v d) => settled_any v d W hA)
  clear h hd1 hw1 hX hB1
  generalize d.next.length = n0 at *
  generalize d.fin.length = m0 at *
  rcases g1 : dchk d with _ | e0
  · have hg := dchk_iff.1 g1
    have gs := sett_good hg
    rw [mkO_ok hg] at HSe
    have HRe := Lib.hid (fun v W (hA : DfaAt W W.heap.size v (settA d)) => reached_any v (settA d) W hA)
    rw [reachedR_ok (dchk_iff.2 gs)] at HRe
    have HAl := Lib.hid (fun v W (hA : DfaAt W W.heap.size v (settA d)) => alive_any v (settA d) W hA)
    rw [aliveR_ok (dchk_iff.2 gs)] at HAl
    have hUs := upto_small gs.n40 (isAlive (settA d))
    have hRs := upto_small gs.n40 (isReached (settA d) (settA d).s.toNat)
    have hUl : (upto (settA d).next.length (isAlive (settA d))).length ≤ 40 := by have := upto_length (settA d).next.length (isAlive (settA d)); have := gs.n40; omega
    have hRl : (upto (settA d).next.length (isReached (settA d) (settA d).s.toNat)).length ≤ 40 := by have := upto_length (settA d).next.length (isReached (settA d) (settA d).s.toNat); have := gs.n40; omega
    have hWm := watch_mem d
    have HO : Hid (watchOut d = (watchB d, 0)) := watchOut_ok hg
    clear g1 hg gs
    generalize upto (settA d).next.length (isAlive (settA d)) = U at *
    generalize upto (settA d).next.length (isReached (settA d) (settA d).s.toNat) = R at *
    have HUs := Lib.hid hUs
    have HRs := Lib.hid hRs
    have HWm := Lib.hid hWm
    clear hUs hRs hWm
    go_enter Tryd.func9, Tryd.ntmps9
    go_wp2_with fail
    rw [← HW.out]
    clear HW
    refine (HSe.out _ _ HV.out).mono ?_
    rintro e w3 he
    obtain ⟨x, h1, ho⟩ := he.out
    have hat := ho.at_
    obtain ⟨L9, s9, A9, n9, c9, F9, m9, k9, rfl⟩ := hat.form
    have h1 : e = .returned (.tuple #[.agg #[.int .i64 L9, .int .i64 s9, .slice A9 n9 c9, .slice F9 m9 k9], .nilIface]) := h1
    subst h1
    obtain ⟨w4, hw4, hbn, Vn⟩ := var_new w3 hat
    have HB := Lib.hid (HB.out.trans ((ho.below.trans (hbn.mono ho.below.size)).mono HB.out.size))
    have HVn := Lib.hid Vn
    have HW4 := Lib.hid hw4
    clear he ho hat hbn Vn hc0 hc1 hc2 hc3 HSe HV
    obtain ⟨q0, q1, q2, q3, q4⟩ := HVn.out.box
    rw [hw4] at q1 q2 q3 q4
    clear hw4
    go_wp2_with fail
    rw [← HW4.out]
    generalize hgg : w3.heap.size = g3 at *
    clear HW4 hgg
    refine (HRe.out _ _ HVn.out.at_).mono ?_
    rintro e w5 he
    obtain ⟨wv, h1, ho⟩ := he.out
    obtain ⟨AR, cR, h2, _, _, hI1⟩ := own_ints_at ho (List.mem_append_right _ List.mem_cons_self) HRs.out
    subst h2
    have h1 : e = .returned (.tuple #[.slice AR R.length cR, .nilIface]) := h1
    subst h1
    have hb := ho.below
    have HVn := Lib.hid (HVn.out.on hb)
    have HB := Lib.hid (HB.out.trans (hb.mono HB.out.size))
    have HI1 := Lib.hid hI1
    clear he ho hb HRe q0 q1 q2 q3 q4 hI1
    obtain ⟨q0, q1, q2, q3, q4⟩ := HVn.out.box
    obtain ⟨lr, hlr⟩ : ∃ lr, R.length = lr := ⟨_, rfl⟩
    have HLr := Lib.hid hlr
    rw [hlr] at hRl
    rw [hlr]
    clear hlr
    go_wp2_with fail
    refine (HAl.out _ _ HVn.out.at_).mono ?_
    rintro e w6 he
    obtain ⟨wv, h1, ho⟩ := he.out
    obtain ⟨AU, cU, h2, _, _, hI2⟩ := own_ints_at ho (List.mem_append_right _ List.mem_cons_self) HUs.out
    subst h2
    have h1 : e = .returned (.tuple #[.slice AU U.length cU, .nilIface]) := h1
    subst h1
    have hb := ho.below
    have HB := Lib.hid (HB.out.trans (hb.mono HB.out.size))
    have HI1 := Lib.hid (HI1.out.on hb)
    have HC := Lib.hid (fun x => contains_any AU cU U x w6 hI2 (by omega) (b := decide (x ∈ U)) rfl)
    clear he ho hb HAl q0 q1 q2 q3 q4 hI2 HVn
    generalize U.length = lu at *
    have HT : Hid (∀ x ∈ R.take 0, x ∈ U) := by unfold Hid; intro x hx; simp at hx
    go_wp2
    go_loop [36] (fun i => ∃ (k : Nat), k ≤ lr ∧ i = .int .i64 k ∧ Hid (∀ x ∈ R.take k, x ∈ U)) (fun i => lr - (intOf i).toNat)
    case atStart => exact ⟨0, by omega, rfl, HT⟩
    case round =>
      clear HT
      obtain ⟨k, hk, rfl, HT⟩ := hrel
      by_cases hlt : k < lr
      · have hkr : k < R.length := by rw [HLr.out]; exact hlt
        obtain ⟨ad, rfl, hadb, hcell, _⟩ := HI1.out.get (List.getElem?_eq_getElem hkr)
        have e1 : (k : Int) < (lr : Int) := by omega
        have HCx := Lib.hid (HC.out R[k])
        by_cases hm : R[k] ∈ U
        · rw [decide_eq_true hm] at HCx
          have HN := Lib.hid (all_take_succ HT.out hkr hm)
          clear hm HT HC hadb
          generalize R[k] = x at *
          go_wp2_with fail
          refine HCx.out.mono ?_
          rintro e w7 ⟨rfl, rfl⟩
          go_wp2
          go_round
          case rel => exact ⟨k + 1, by omega, by go_num, HN⟩
          case measure => simp [intOf]; omega
        · rw [decide_eq_false hm] at HCx
          have HF : Hid (watchB d = false) := by
            unfold Hid
            rcases h : watchB d with _ | _
            · rfl
            · exact absurd (HWm.out.1 h _ (List.getElem_mem hkr)) hm
          clear hm HT HC hadb
          generalize R[k] = x at *
          go_wp2_with fail
          refine HCx.out.mono ?_
          rintro e w7 ⟨rfl, rfl⟩
          go_wp2
          go_ret2
          exact ⟨by rw [HO.out, HF.out]; rfl, HB.out⟩
      · have HF : Hid (watchB d = true) := HWm.out.2 (all_take_end HT.out (by rw [HLr.out]; omega))
        clear HT
        go_wp2
        go_ret2
        exact ⟨by rw [HO.out, HF.out]; rfl, HB.out⟩
  · have HO : Hid (watchOut d = (false, e0 + 1)) := by unfold Hid; rw [watchOut_bad (by omega), g1]
    rw [mkO_bad (by omega), g1] at HSe
    simp only [errV_succ] at HSe
    clear g1
    generalize hE : ((e0 + 1 : Nat) : Int) = E at *
    have HE := Lib.hid hE
    clear hE
    go_enter Tryd.func9, Tryd.ntmps9
    go_wp2_with fail
    rw [← HW.out]
    refine (HSe.out _ _ HV.out).mono ?_
    rintro e w2 he
    obtain ⟨x, h1, ho⟩ := he.out
    obtain ⟨L9, s9, A9, n9, c9, F9, m9, k9, rfl⟩ := ho.at_.form
    subst h1
    have HB := Lib.hid (HB.out.trans ((ho.below.trans ((below_alloc w2 (.cells #[.int .i64 L9, .int .i64 s9, .slice A9 n9 c9, .slice F9 m9 k9] 25)).mono ho.below.size)).mono HB.out.size))
    clear he ho HSe hc0 hc1 hc2 hc3
    go_wp2
    go_ret2
    exact ⟨by rw [HO.out, errV_succ, HE.out]; rfl, HB.out⟩
theorem watch_gives {W : World} {v : Value} {d : Aut} (h : DfaAt W W.heap.size v d) {b : Bool} {k : Nat} {E : Value} (hr : watchOut d = (b, k)) (hE : errV k = E) :
    Calls Tryd.prog 9 #[v] W fun e w' => e = .returned (.tuple #[.bool b, E]) ∧ Below W.heap.size W w' :=
  (watch_any v d W h).mono fun e w' ⟨h1, h2⟩ => ⟨by rw [h1.out, hr, hE], h2⟩
end Go.Proofs.YtblkaegnnokedaaDoor.Ve
