/- The walks of the document's answer for package safe: stilewardref2's Safe and Class. -/
import Derived.Test.YtciopfiddfmckaaDoorRefLive
import Derived.Test.YtciopfiddfmckaaDoorRefNot
import Derived.Test.YtciopfiddfmckaaDoorSafeM
namespace Go.Proofs.YtciopfiddfmckaaDoor.Sa
open Go.RowKit Go.IntWalk Go.Proofs.YtciopfiddfmckaaDoor.Wd Go.Proofs.YtciopfiddfmckaaDoor.Wo Go.Proofs.YtciopfiddfmckaaDoor.Df Go.Proofs.YtciopfiddfmckaaDoor.Rc Go.Proofs.YtciopfiddfmckaaDoor.Sm

/-! ### the four kinds -/
def stopK (kind : Int) (f : Bool) : Bool := (kind == 1 && !f) || (kind == 2 && f)
def rowK (kind : Int) (d : Aut) (s : Nat) : List Int := if stopK kind (finA d s) then List.replicate d.L.toNat (s : Int) else (S1 d s).map fun (t : Nat) => (t : Int)
def finK (kind : Int) (d : Aut) (s : Nat) : Bool := if kind == 0 then isAlive d s else if kind == 3 then finA d s || !isAlive d s else finA d s
def safeK (kind : Int) (d : Aut) : Aut := ⟨d.L, d.s, (List.range d.next.length).map (rowK kind d), (List.range d.next.length).map (finK kind d)⟩
theorem rowK_len (kind : Int) (d : Aut) (s : Nat) : (rowK kind d s).length = d.L.toNat := by
  unfold rowK
  split
  · exact List.length_replicate
  · rw [List.length_map, S1_length]
theorem rowK_get (kind : Int) (d : Aut) (s : Nat) {j : Nat} (hj : (j : Int) < d.L) : (rowK kind d s)[j]? = some (if stopK kind (finA d s) then (s : Int) else ((Df.step d s j : Nat) : Int)) := by
  unfold rowK
  split
  · rw [List.getElem?_replicate, if_pos (by omega)]
  · rw [List.getElem?_map, S1_get d s hj]; rfl
theorem next_row {d : Aut} (g : Df.Good d) {s : Nat} (hs : s < d.next.length) : d.next[s]?.getD [] = (S1 d s).map fun (t : Nat) => (t : Int) := by
  have h := (good_form g).1
  have h2 : d.next[s]? = ((List.range d.next.length).map (fun q => (S1 d q).map fun (t : Nat) => (t : Int)))[s]? := congrArg (·[s]?) h
  rw [h2, List.getElem?_map, List.getElem?_range hs]; rfl
theorem rows_plain {d : Aut} (g : Df.Good d) {kind : Int} (h : ∀ f, stopK kind f = false) : (List.range d.next.length).map (rowK kind d) = d.next := by
  have e : (List.range d.next.length).map (rowK kind d) = (List.range d.next.length).map (fun q => (S1 d q).map fun (t : Nat) => (t : Int)) := List.map_congr_left fun s _ => by unfold rowK; rw [h]; rfl
  rw [e]; exact (good_form g).1.symm
theorem rows_stop {d : Aut} (g : Df.Good d) {kind : Int} {b : Bool} (h : ∀ f, stopK kind f = (f == b)) : (List.range d.next.length).map (rowK kind d) = (stopA b d).next := by
  refine List.map_congr_left fun s hs => ?_
  have hs := List.mem_range.1 hs
  unfold rowK stopRow
  rw [h, next_row g hs, List.length_map, S1_length]
  by_cases e : finA d s = b
  · rw [if_pos e, if_pos (by rw [e]; exact beq_self_eq_true _)]
  · rw [if_neg e, if_neg (by intro q; exact e (by simpa using q))]
theorem fins_plain {d : Aut} (g : Df.Good d) {kind : Int} (h0 : (kind == 0) = false) (h3 : (kind == 3) = false) : (List.range d.next.length).map (finK kind d) = d.fin := by
  have e : (List.range d.next.length).map (finK kind d) = (List.range d.next.length).map (finA d) := List.map_congr_left fun s _ => by unfold finK; rw [h0, h3]; rfl
  rw [e]; exact (good_form g).2.symm
theorem safe_pre {d : Aut} (g : Df.Good d) : safeK 0 d = preA d := by unfold safeK; rw [rows_plain g (fun f => by unfold stopK; rfl)]; rfl
theorem safe_always {d : Aut} (g : Df.Good d) : safeK 1 d = stopA false d := by unfold safeK; rw [rows_stop g (b := false) (fun f => by cases f <;> rfl), fins_plain g rfl rfl]; rfl
theorem safe_ever {d : Aut} (g : Df.Good d) : safeK 2 d = stopA true d := by unfold safeK; rw [rows_stop g (b := true) (fun f => by cases f <;> rfl), fins_plain g rfl rfl]; rfl
theorem safe_rest {d : Aut} (g : Df.Good d) : safeK 3 d = restA d := by unfold safeK; rw [rows_plain g (fun f => by unfold stopK; rfl)]; rfl
theorem safeK_good {d : Aut} (g : Df.Good d) {kind : Int} (hk : kind = 0 ∨ kind = 1 ∨ kind = 2 ∨ kind = 3) : Df.Good (safeK kind d) := by
  rcases hk with rfl | rfl | rfl | rfl
  · rw [safe_pre g]; exact judge_good g
  · rw [safe_always g]; exact stop_good g
  · rw [safe_ever g]; exact stop_good g
  · rw [safe_rest g]; exact judge_good g
theorem map_take_succ {α : Type} (f : Nat → α) (k : Nat) : (List.range (k + 1)).map f = (List.range k).map f ++ [f k] := by rw [List.range_succ, List.map_append]; rfl
theorem res_safe {fn : Func} {t : Tmp} (h : fn.results = #[.cell t 25]) (tmps : Array Value) {w : World} {g : Nat} {v0 v1 v2 v3 : Value} (hp : tmps.getD t undef = .pointer (some ⟨g, 0, none⟩))
    (c0 : w.cell? ⟨g, 0, none⟩ = some v0) (c1 : w.cell? ⟨g, 1, none⟩ = some v1) (c2 : w.cell? ⟨g, 2, none⟩ = some v2) (c3 : w.cell? ⟨g, 3, none⟩ = some v3) :
    (results fn tmps).run Tryd.prog w = .ok (.agg #[v0, v1, v2, v3]) w := by
  have hp' : tmps[t]?.getD undef = .pointer (some ⟨g, 0, none⟩) := by simpa using hp
  simp [results, h, hp', go_sem, c0, c1, c2, c3]
/-- A row under way beside what is built. -/
def RowB (w2 wi : World) (g : Nat) (L s : Int) (bs : List Bool) (nv fv : Value) (rs : List (Value × List Int)) (rv : Value) (l : List Int) : Prop :=
  Own w2 wi (eInts rv l :: eRows nv (rs.map (·.1)) :: eBools fv bs :: eDfa g [.int .i64 L, .int .i64 s, nv, fv] :: []) (eEach rs)
set_option linter.unusedSimpArgs false in
set_option maxRecDepth 100000 in
set_option maxHeartbeats 4000000 in
theorem rsafe_any (kind : Int) (hk : kind = 0 ∨ kind = 1 ∨ kind = 2 ∨ kind = 3) (v : Value) (d : Aut) (w : World) (h : DfaAt w w.heap.size v d) (hg : Df.Good d) :
    Calls Tryd.prog 7 #[v, .int .i64 kind] w fun e w' => Hid (∃ x, e = .returned x ∧ DfaOwn w w' x (safeK kind d)) := by
  have HV := h
  obtain ⟨L, s, A, c, F, cf, rfl, h⟩ := h
  obtain ⟨w1, hw1, hB1, hX, hd1⟩ := box_dfa w h
  have HB := Lib.hid hB1
  have HW := Lib.hid hw1
  have hres := below_alloc w1 (.cells #[.int .i64 0, .int .i64 0, .slice none 0 0, .slice none 0 0] 25)
  have HX := Lib.hid (hX.on hres)
  have HD := Lib.hid (hd1.on hres)
  have HG := Lib.hid hg
  have HLi := Lib.hid (live_any _ d _ ((HV.on hB1).on hres) hg)
  have HO := Lib.hid ((own_start w1).dfa (.int .i64 0) (.int .i64 0) (.slice none 0 0) (.slice none 0 0))
  have hsz : w1.heap.size = w.heap.size + 1 := by rw [hw1]; simp
  rw [hsz] at HO
  obtain ⟨n, hn⟩ := Int.eq_ofNat_of_zero_le (show 0 ≤ L by have := hg.l1; have := h.eL; omega)
  subst hn
  have HE : Hid (d.L = (n : Int) ∧ d.s = s) := ⟨h.eL, h.es⟩
  have hn6 : n ≤ 6 := by have := hg.l6; have := h.eL; omega
  have h40 := hg.n40
  have HSm : Hid (∀ r ∈ (safeK kind d).next, ∀ x ∈ r, Small x) := good_small (safeK_good hg hk)
  have HLS : Hid (Small (n : Int) ∧ Small s) := ⟨by rw [← HE.out.1]; exact hg.small_L, by rw [← HE.out.2]; exact hg.small_s⟩
  have hfm : d.fin.length = d.next.length := hg.fin
  have hc0 := HX.out.c0
  have hc1 := HX.out.c1
  have hc2 := HX.out.c2
  have hc3 := HX.out.c3
  clear h hd1 hw1 hX hB1 HV hres hsz hg
  obtain ⟨N, hN⟩ : ∃ N, d.next.length = N := ⟨_, rfl⟩
  rw [hfm] at hc3 HLi HW HX
  rw [hN] at hc2 hc3 h40 HLi HW HX
  rw [hfm, hN]
  have HN := Lib.hid hN
  have HFm := Lib.hid hfm
  clear hN hfm
  go_enter Tryd.func7, Tryd.ntmps7
  go_wp2_with fail
  rw [← HW.out]
  refine HLi.out.mono ?_
  rintro e w2 he
  obtain ⟨gl, h1, ho⟩ := he.out
  subst h1
  have HO2 : Hid (Own w1 w2 [eDfa (w.heap.size + 1) zero4] [eBools (rowV gl N) (bF N (isAlive d))]) := by
    have := HO.out.join ho
    exact this
  have HX := Lib.hid (HX.out.on ho.below)
  have HD := Lib.hid (HD.out.on ho.below)
  have HS : Hid (Build w2 (w2.alloc (.cells #[.int .i64 (n : Int), .int .i64 s, .slice none 0 0, .slice none 0 0] 25)) w2.heap.size [] (n : Int) s ((List.range 0).map (rowK kind d)) ((List.range 0).map (finK kind d)) (.slice none 0 0) (.slice none 0 0) []) :=
    ⟨rfl, (((own_start w2).dfa (.int .i64 (n : Int)) (.int .i64 s) (.slice none 0 0) (.slice none 0 0)).nil 4 1).nil 38 1⟩
  clear he ho HLi hc0 hc1 hc2 hc3 HO
  have hc0 := HX.out.c0
  have hc1 := HX.out.c1
  go_wp2
  clear hc0 hc1
  generalize hg2 : w2.heap.size = g at HS ⊢
  clear hg2
  go_loopw [7] (fun i wr => ∃ (k : Nat), k ≤ N ∧ i = .int .i64 k ∧ Hid (∃ nv fv rs, Build w2 wr g [] (n : Int) s ((List.range k).map (rowK kind d)) ((List.range k).map (finK kind d)) nv fv rs)) (fun i _ => N - (intOf i).toNat)
  case atStart => exact ⟨0, by omega, rfl, _, _, _, HS.out⟩
  case round =>
    clear HS HW
    obtain ⟨k, hk9, rfl, HS⟩ := hrel
    obtain ⟨nv, fv, rs, hb⟩ := HS.out
    have HBd := Lib.hid hb
    have hbw := hb.2.below
    have HXw := Lib.hid (HX.out.on hbw)
    have hc2 := HXw.out.c2
    clear HS hb
    by_cases hlt : k < N
    · have hkn : k < d.next.length := by rw [HN.out]; exact hlt
      have HKn := Lib.hid hkn
      have HY : Hid (RowB w2 wr g (n : Int) s ((List.range k).map (finK kind d)) nv fv rs (.slice none 0 0) ((rowK kind d k).take 0)) := HBd.out.2.nil 3 1
      have HRl : Hid ((rowK kind d k).length = n) := by unfold Hid; rw [rowK_len, HE.out.1]; rfl
      have HRg : Hid (∀ j, j < n → (rowK kind d k)[j]? = some (if stopK kind (finA d k) then (k : Int) else ((Df.step d k j : Nat) : Int))) := fun j hj => rowK_get kind d k (by rw [HE.out.1]; omega)
      have HFk : Hid (finK kind d k = if kind == 0 then isAlive d k else if kind == 3 then finA d k || !isAlive d k else finA d k) := rfl
      have HMs : Hid ((List.range (k + 1)).map (rowK kind d) = (List.range k).map (rowK kind d) ++ [rowK kind d k]) := map_take_succ _ _
      have HMf : Hid ((List.range (k + 1)).map (finK kind d) = (List.range k).map (finK kind d) ++ [finK kind d k]) := map_take_succ _ _
      obtain ⟨fk, hfk⟩ : ∃ fk, finA d k = fk := ⟨_, rfl⟩
      have hfin : d.fin[k]? = some fk := by rw [← hfk]; exact HG.out.fin_at hkn
      have HFin := Lib.hid hfin
      rw [hfk] at HRg HFk
      have HBm := HBd.out.1
      have HBm := Lib.hid HBm
      generalize rowK kind d k = R at *
      generalize finK kind d k = fK at *
      clear HBd hfin hkn hfk hbw HXw
      have e3 : (k : Int) < (N : Int) := by omega
      have HS2 := HSm
      clear HSm
      have HLen : Hid ((rs.map (·.1)).length < 1099511627776) := by
        have := congrArg List.length HBm.out
        rw [List.length_map, List.length_map, List.length_range] at this
        unfold Hid; rw [List.length_map]; omega
      have HLf : Hid (((List.range k).map (finK kind d)).length < 17592186044416) := by unfold Hid; rw [List.length_map, List.length_range]; omega
      generalize (List.range k).map (finK kind d) = BS at *
      generalize (List.range k).map (rowK kind d) = RS at *
      rcases hk with rfl | rfl | rfl | rfl <;> rcases fk with _ | _
      · as_aux_lemma =>
          go_wp2
          clear hc2
          go_loopw [8, 9] (fun rv i wi => ∃ (j : Nat), j ≤ n ∧ i = .int .i64 j ∧ Hid (RowB w2 wi g (n : Int) s BS nv fv rs rv (R.take j))) (fun _ i _ => n - (intOf i).toNat)
          case atStart => exact ⟨0, by omega, rfl, HY⟩
          case round =>
            clear HY
            obtain ⟨j, hj, rfl, HR⟩ := hrel
            have hbw := Own.below HR.out
            have hc0 := (HX.out.on hbw).c0
            by_cases hjn : j < n
            · obtain ⟨ad, ar, mr, cr, rfl, hadb, hcell, hjm, harb, hac⟩ := (HD.out.on hbw).step_at HG.out HKn.out (i := j) (by rw [HE.out.1]; omega)
              obtain ⟨adf, hF, hadf, hcf, _⟩ := (HD.out.on hbw).fins.at_ HFin.out
              subst hF
              have hRj := HRg.out j hjn
              have hTk := take_succ' R (List.getElem?_eq_getElem (List.getElem?_eq_some_iff.1 hRj).1)
              rw [(List.getElem?_eq_some_iff.1 hRj).2] at hTk
              have hlen : (R.take j).length < 17592186044416 := by rw [List.length_take]; omega
              have hc2 := (HX.out.on hbw).c2
              have hc3 := (HX.out.on hbw).c3
              have e4 : (j : Int) < (mr : Int) := by omega
              have HTk := Lib.hid hTk
              have HR1 : Hid (Own w2 wr (eInts u8 (R.take j) :: eRows nv (rs.map (·.1)) :: eBools fv BS :: eDfa g [.int .i64 (n : Int), .int .i64 s, nv, fv] :: []) (eEach rs)) := HR.out
              clear hRj hTk hbw HR
              generalize Df.step d k j = u at *
              generalize R.take j = Rj at *
              go_wp2_with (at_builtin; refine own_int (by rfl) _ _ (by rfl) (by rfl) HR1.out (by rfl) hlen ?_)
              intro g5 cap5 w5 ho5
              have HO5 : Hid (RowB w2 w5 g (n : Int) s BS nv fv rs (.slice (some ⟨g5, 0, none⟩) (Rj.length + 1) cap5) (R.take (j + 1))) := by rw [HTk.out]; exact ho5
              clear ho5 HR1 hcell hac hcf hc0 hc2 hc3 HTk
              generalize Rj.length = lj at *
              go_wp2
              go_roundw
              case rel => exact ⟨j + 1, by omega, by go_num, HO5⟩
              case measure => simp [intOf]; omega
            · obtain rfl : n = j := by omega
              rw [List.take_of_length_le (by rw [HRl.out]; exact Nat.le_refl _)] at HR
              obtain ⟨Ar, cr, hv, _⟩ := Own.form HR.out (e := eInts u8 R) (by simp)
              simp only [eInts] at hv
              obtain ⟨adf, hF, hadf, hcf, _⟩ := (HD.out.on hbw).fins.at_ HFin.out
              subst hF
              have hc3 := (HX.out.on hbw).c3
              obtain ⟨hal, _⟩ := own_bools_cell (HO2.out.on hbw) (List.mem_append_right _ List.mem_cons_self) (bF_length _ _) (bF_get (isAlive d) hlt)
              have HR2 : Hid (Own w2 wr (eRows nv (rs.map (·.1)) :: eInts u8 R :: eBools fv BS :: eDfa g [.int .i64 (n : Int), .int .i64 s, nv, fv] :: []) (eEach rs)) := Own.two HR.out
              clear HR hbw
              subst hv
              generalize isAlive d k = al at *
              obtain ⟨q2, p2⟩ := HR2.out.dcell (g := g) (l := [.int .i64 (n : Int), .int .i64 s, nv, fv]) (j := 2) (by simp) rfl
              go_wp2_with (at_builtin; refine own_row (by rfl) _ _ (by rfl) (by rfl) HR2.out (by rfl) (by rfl) HLen.out ?_)
              intro g4 cap4 w4 ho4
              have HB5 : Hid (Build w2 (w4.setCell ⟨g, 2, none⟩ (.slice (some ⟨g4, 0, none⟩) (rs.length + 1) cap4)) g [] (n : Int) s (RS ++ [R]) BS (.slice (some ⟨g4, 0, none⟩) (rs.length + 1) cap4) fv (rs ++ [(.slice Ar R.length cr, R)])) := build_row HBm.out ho4 rfl
              have HSz : Hid ((w4.setCell ⟨g, 2, none⟩ (.slice (some ⟨g4, 0, none⟩) (rs.length + 1) cap4)).heap.size = w4.heap.size) := by unfold Hid; simp
              obtain ⟨q8, p8⟩ := ho4.dcell (g := g) (l := [.int .i64 (n : Int), .int .i64 s, nv, fv]) (j := 2) (by simp) rfl
              have q3 := HB5.out.c3.1
              have HO5 := Lib.hid HB5.out.2.two
              clear ho4 HR2 q2 p2 HLen
              generalize rs.length = lrs at *
              go_wp2_with (at_builtin; refine own_bool (by rfl) _ _ (by rfl) (by rfl) HO5.out (by rw [HSz.out]; rfl) HLf.out ?_)
              intro g6 cap6 w6 ho6
              have HB7 : Hid (Build w2 (w6.setCell ⟨g, 3, none⟩ (.slice (some ⟨g6, 0, none⟩) (BS.length + 1) cap6)) g [] (n : Int) s (RS ++ [R]) (BS ++ [fK]) (.slice (some ⟨g4, 0, none⟩) (lrs + 1) cap4) (.slice (some ⟨g6, 0, none⟩) (BS.length + 1) cap6) (rs ++ [(.slice Ar R.length cr, R)])) := build_flag HB5.out.1 (by rw [List.map_append, HFk.out]; exact ho6) rfl
              obtain ⟨q9, p9⟩ := ho6.dcell (g := g) (l := [.int .i64 (n : Int), .int .i64 s, .slice (some ⟨g4, 0, none⟩) (lrs + 1) cap4, fv]) (j := 3) (by simp) rfl
              clear ho6 HO5 HB5 q8 p8 q3 HSz HLf
              go_wp2
              go_roundw
              case rel => exact ⟨k + 1, by omega, by go_num, ⟨_, _, _, by rw [HMs.out, HMf.out]; exact HB7.out⟩⟩
              case measure => simp [intOf]; omega
      · as_aux_lemma =>
          go_wp2
          clear hc2
          go_loopw [8, 9] (fun rv i wi => ∃ (j : Nat), j ≤ n ∧ i = .int .i64 j ∧ Hid (RowB w2 wi g (n : Int) s BS nv fv rs rv (R.take j))) (fun _ i _ => n - (intOf i).toNat)
          case atStart => exact ⟨0, by omega, rfl, HY⟩
          case round =>
            clear HY
            obtain ⟨j, hj, rfl, HR⟩ := hrel
            have hbw := Own.below HR.out
            have hc0 := (HX.out.on hbw).c0
            by_cases hjn : j < n
            · obtain ⟨ad, ar, mr, cr, rfl, hadb, hcell, hjm, harb, hac⟩ := (HD.out.on hbw).step_at HG.out HKn.out (i := j) (by rw [HE.out.1]; omega)
              obtain ⟨adf, hF, hadf, hcf, _⟩ := (HD.out.on hbw).fins.at_ HFin.out
              subst hF
              have hRj := HRg.out j hjn
              have hTk := take_succ' R (List.getElem?_eq_getElem (List.getElem?_eq_some_iff.1 hRj).1)
              rw [(List.getElem?_eq_some_iff.1 hRj).2] at hTk
              have hlen : (R.take j).length < 17592186044416 := by rw [List.length_take]; omega
              have hc2 := (HX.out.on hbw).c2
              have hc3 := (HX.out.on hbw).c3
              have e4 : (j : Int) < (mr : Int) := by omega
              have HTk := Lib.hid hTk
              have HR1 : Hid (Own w2 wr (eInts u8 (R.take j) :: eRows nv (rs.map (·.1)) :: eBools fv BS :: eDfa g [.int .i64 (n : Int), .int .i64 s, nv, fv] :: []) (eEach rs)) := HR.out
              clear hRj hTk hbw HR
              generalize Df.step d k j = u at *
              generalize R.take j = Rj at *
              go_wp2_with (at_builtin; refine own_int (by rfl) _ _ (by rfl) (by rfl) HR1.out (by rfl) hlen ?_)
              intro g5 cap5 w5 ho5
              have HO5 : Hid (RowB w2 w5 g (n : Int) s BS nv fv rs (.slice (some ⟨g5, 0, none⟩) (Rj.length + 1) cap5) (R.take (j + 1))) := by rw [HTk.out]; exact ho5
              clear ho5 HR1 hcell hac hcf hc0 hc2 hc3 HTk
              generalize Rj.length = lj at *
              go_wp2
              go_roundw
              case rel => exact ⟨j + 1, by omega, by go_num, HO5⟩
              case measure => simp [intOf]; omega
            · obtain rfl : n = j := by omega
              rw [List.take_of_length_le (by rw [HRl.out]; exact Nat.le_refl _)] at HR
              obtain ⟨Ar, cr, hv, _⟩ := Own.form HR.out (e := eInts u8 R) (by simp)
              simp only [eInts] at hv
              obtain ⟨adf, hF, hadf, hcf, _⟩ := (HD.out.on hbw).fins.at_ HFin.out
              subst hF
              have hc3 := (HX.out.on hbw).c3
              obtain ⟨hal, _⟩ := own_bools_cell (HO2.out.on hbw) (List.mem_append_right _ List.mem_cons_self) (bF_length _ _) (bF_get (isAlive d) hlt)
              have HR2 : Hid (Own w2 wr (eRows nv (rs.map (·.1)) :: eInts u8 R :: eBools fv BS :: eDfa g [.int .i64 (n : Int), .int .i64 s, nv, fv] :: []) (eEach rs)) := Own.two HR.out
              clear HR hbw
              subst hv
              generalize isAlive d k = al at *
              obtain ⟨q2, p2⟩ := HR2.out.dcell (g := g) (l := [.int .i64 (n : Int), .int .i64 s, nv, fv]) (j := 2) (by simp) rfl
              go_wp2_with (at_builtin; refine own_row (by rfl) _ _ (by rfl) (by rfl) HR2.out (by rfl) (by rfl) HLen.out ?_)
              intro g4 cap4 w4 ho4
              have HB5 : Hid (Build w2 (w4.setCell ⟨g, 2, none⟩ (.slice (some ⟨g4, 0, none⟩) (rs.length + 1) cap4)) g [] (n : Int) s (RS ++ [R]) BS (.slice (some ⟨g4, 0, none⟩) (rs.length + 1) cap4) fv (rs ++ [(.slice Ar R.length cr, R)])) := build_row HBm.out ho4 rfl
              have HSz : Hid ((w4.setCell ⟨g, 2, none⟩ (.slice (some ⟨g4, 0, none⟩) (rs.length + 1) cap4)).heap.size = w4.heap.size) := by unfold Hid; simp
              obtain ⟨q8, p8⟩ := ho4.dcell (g := g) (l := [.int .i64 (n : Int), .int .i64 s, nv, fv]) (j := 2) (by simp) rfl
              have q3 := HB5.out.c3.1
              have HO5 := Lib.hid HB5.out.2.two
              clear ho4 HR2 q2 p2 HLen
              generalize rs.length = lrs at *
              go_wp2_with (at_builtin; refine own_bool (by rfl) _ _ (by rfl) (by rfl) HO5.out (by rw [HSz.out]; rfl) HLf.out ?_)
              intro g6 cap6 w6 ho6
              have HB7 : Hid (Build w2 (w6.setCell ⟨g, 3, none⟩ (.slice (some ⟨g6, 0, none⟩) (BS.length + 1) cap6)) g [] (n : Int) s (RS ++ [R]) (BS ++ [fK]) (.slice (some ⟨g4, 0, none⟩) (lrs + 1) cap4) (.slice (some ⟨g6, 0, none⟩) (BS.length + 1) cap6) (rs ++ [(.slice Ar R.length cr, R)])) := build_flag HB5.out.1 (by rw [List.map_append, HFk.out]; exact ho6) rfl
              obtain ⟨q9, p9⟩ := ho6.dcell (g := g) (l := [.int .i64 (n : Int), .int .i64 s, .slice (some ⟨g4, 0, none⟩) (lrs + 1) cap4, fv]) (j := 3) (by simp) rfl
              clear ho6 HO5 HB5 q8 p8 q3 HSz HLf
              go_wp2
              go_roundw
              case rel => exact ⟨k + 1, by omega, by go_num, ⟨_, _, _, by rw [HMs.out, HMf.out]; exact HB7.out⟩⟩
              case measure => simp [intOf]; omega
      · as_aux_lemma =>
          go_wp2
          clear hc2
          go_loopw [8, 9] (fun rv i wi => ∃ (j : Nat), j ≤ n ∧ i = .int .i64 j ∧ Hid (RowB w2 wi g (n : Int) s BS nv fv rs rv (R.take j))) (fun _ i _ => n - (intOf i).toNat)
          case atStart => exact ⟨0, by omega, rfl, HY⟩
          case round =>
            clear HY
            obtain ⟨j, hj, rfl, HR⟩ := hrel
            have hbw := Own.below HR.out
            have hc0 := (HX.out.on hbw).c0
            by_cases hjn : j < n
            · obtain ⟨ad, ar, mr, cr, rfl, hadb, hcell, hjm, harb, hac⟩ := (HD.out.on hbw).step_at HG.out HKn.out (i := j) (by rw [HE.out.1]; omega)
              obtain ⟨adf, hF, hadf, hcf, _⟩ := (HD.out.on hbw).fins.at_ HFin.out
              subst hF
              have hRj := HRg.out j hjn
              have hTk := take_succ' R (List.getElem?_eq_getElem (List.getElem?_eq_some_iff.1 hRj).1)
              rw [(List.getElem?_eq_some_iff.1 hRj).2] at hTk
              have hlen : (R.take j).length < 17592186044416 := by rw [List.length_take]; omega
              have hc2 := (HX.out.on hbw).c2
              have hc3 := (HX.out.on hbw).c3
              have e4 : (j : Int) < (mr : Int) := by omega
              have HTk := Lib.hid hTk
              have HR1 : Hid (Own w2 wr (eInts u8 (R.take j) :: eRows nv (rs.map (·.1)) :: eBools fv BS :: eDfa g [.int .i64 (n : Int), .int .i64 s, nv, fv] :: []) (eEach rs)) := HR.out
              clear hRj hTk hbw HR
              generalize Df.step d k j = u at *
              generalize R.take j = Rj at *
              go_wp2_with (at_builtin; refine own_int (by rfl) _ _ (by rfl) (by rfl) HR1.out (by rfl) hlen ?_)
              intro g5 cap5 w5 ho5
              have HO5 : Hid (RowB w2 w5 g (n : Int) s BS nv fv rs (.slice (some ⟨g5, 0, none⟩) (Rj.length + 1) cap5) (R.take (j + 1))) := by rw [HTk.out]; exact ho5
              clear ho5 HR1 hcell hac hcf hc0 hc2 hc3 HTk
              generalize Rj.length = lj at *
              go_wp2
              go_roundw
              case rel => exact ⟨j + 1, by omega, by go_num, HO5⟩
              case measure => simp [intOf]; omega
            · obtain rfl : n = j := by omega
              rw [List.take_of_length_le (by rw [HRl.out]; exact Nat.le_refl _)] at HR
              obtain ⟨Ar, cr, hv, _⟩ := Own.form HR.out (e := eInts u8 R) (by simp)
              simp only [eInts] at hv
              obtain ⟨adf, hF, hadf, hcf, _⟩ := (HD.out.on hbw).fins.at_ HFin.out
              subst hF
              have hc3 := (HX.out.on hbw).c3
              obtain ⟨hal, _⟩ := own_bools_cell (HO2.out.on hbw) (List.mem_append_right _ List.mem_cons_self) (bF_length _ _) (bF_get (isAlive d) hlt)
              have HR2 : Hid (Own w2 wr (eRows nv (rs.map (·.1)) :: eInts u8 R :: eBools fv BS :: eDfa g [.int .i64 (n : Int), .int .i64 s, nv, fv] :: []) (eEach rs)) := Own.two HR.out
              clear HR hbw
              subst hv
              generalize isAlive d k = al at *
              obtain ⟨q2, p2⟩ := HR2.out.dcell (g := g) (l := [.int .i64 (n : Int), .int .i64 s, nv, fv]) (j := 2) (by simp) rfl
              go_wp2_with (at_builtin; refine own_row (by rfl) _ _ (by rfl) (by rfl) HR2.out (by rfl) (by rfl) HLen.out ?_)
              intro g4 cap4 w4 ho4
              have HB5 : Hid (Build w2 (w4.setCell ⟨g, 2, none⟩ (.slice (some ⟨g4, 0, none⟩) (rs.length + 1) cap4)) g [] (n : Int) s (RS ++ [R]) BS (.slice (some ⟨g4, 0, none⟩) (rs.length + 1) cap4) fv (rs ++ [(.slice Ar R.length cr, R)])) := build_row HBm.out ho4 rfl
              have HSz : Hid ((w4.setCell ⟨g, 2, none⟩ (.slice (some ⟨g4, 0, none⟩) (rs.length + 1) cap4)).heap.size = w4.heap.size) := by unfold Hid; simp
              obtain ⟨q8, p8⟩ := ho4.dcell (g := g) (l := [.int .i64 (n : Int), .int .i64 s, nv, fv]) (j := 2) (by simp) rfl
              have q3 := HB5.out.c3.1
              have HO5 := Lib.hid HB5.out.2.two
              clear ho4 HR2 q2 p2 HLen
              generalize rs.length = lrs at *
              go_wp2_with (at_builtin; refine own_bool (by rfl) _ _ (by rfl) (by rfl) HO5.out (by rw [HSz.out]; rfl) HLf.out ?_)
              intro g6 cap6 w6 ho6
              have HB7 : Hid (Build w2 (w6.setCell ⟨g, 3, none⟩ (.slice (some ⟨g6, 0, none⟩) (BS.length + 1) cap6)) g [] (n : Int) s (RS ++ [R]) (BS ++ [fK]) (.slice (some ⟨g4, 0, none⟩) (lrs + 1) cap4) (.slice (some ⟨g6, 0, none⟩) (BS.length + 1) cap6) (rs ++ [(.slice Ar R.length cr, R)])) := build_flag HB5.out.1 (by rw [List.map_append, HFk.out]; exact ho6) rfl
              obtain ⟨q9, p9⟩ := ho6.dcell (g := g) (l := [.int .i64 (n : Int), .int .i64 s, .slice (some ⟨g4, 0, none⟩) (lrs + 1) cap4, fv]) (j := 3) (by simp) rfl
              clear ho6 HO5 HB5 q8 p8 q3 HSz HLf
              go_wp2
              go_roundw
              case rel => exact ⟨k + 1, by omega, by go_num, ⟨_, _, _, by rw [HMs.out, HMf.out]; exact HB7.out⟩⟩
              case measure => simp [intOf]; omega
      · as_aux_lemma =>
          go_wp2
          clear hc2
          go_loopw [8, 9] (fun rv i wi => ∃ (j : Nat), j ≤ n ∧ i = .int .i64 j ∧ Hid (RowB w2 wi g (n : Int) s BS nv fv rs rv (R.take j))) (fun _ i _ => n - (intOf i).toNat)
          case atStart => exact ⟨0, by omega, rfl, HY⟩
          case round =>
            clear HY
            obtain ⟨j, hj, rfl, HR⟩ := hrel
            have hbw := Own.below HR.out
            have hc0 := (HX.out.on hbw).c0
            by_cases hjn : j < n
            · obtain ⟨ad, ar, mr, cr, rfl, hadb, hcell, hjm, harb, hac⟩ := (HD.out.on hbw).step_at HG.out HKn.out (i := j) (by rw [HE.out.1]; omega)
              obtain ⟨adf, hF, hadf, hcf, _⟩ := (HD.out.on hbw).fins.at_ HFin.out
              subst hF
              have hRj := HRg.out j hjn
              have hTk := take_succ' R (List.getElem?_eq_getElem (List.getElem?_eq_some_iff.1 hRj).1)
              rw [(List.getElem?_eq_some_iff.1 hRj).2] at hTk
              have hlen : (R.take j).length < 17592186044416 := by rw [List.length_take]; omega
              have hc2 := (HX.out.on hbw).c2
              have hc3 := (HX.out.on hbw).c3
              have e4 : (j : Int) < (mr : Int) := by omega
              have HTk := Lib.hid hTk
              have HR1 : Hid (Own w2 wr (eInts u8 (R.take j) :: eRows nv (rs.map (·.1)) :: eBools fv BS :: eDfa g [.int .i64 (n : Int), .int .i64 s, nv, fv] :: []) (eEach rs)) := HR.out
              clear hRj hTk hbw HR
              generalize Df.step d k j = u at *
              generalize R.take j = Rj at *
              go_wp2_with (at_builtin; refine own_int (by rfl) _ _ (by rfl) (by rfl) HR1.out (by rfl) hlen ?_)
              intro g5 cap5 w5 ho5
              have HO5 : Hid (RowB w2 w5 g (n : Int) s BS nv fv rs (.slice (some ⟨g5, 0, none⟩) (Rj.length + 1) cap5) (R.take (j + 1))) := by rw [HTk.out]; exact ho5
              clear ho5 HR1 hcell hac hcf hc0 hc2 hc3 HTk
              generalize Rj.length = lj at *
              go_wp2
              go_roundw
              case rel => exact ⟨j + 1, by omega, by go_num, HO5⟩
              case measure => simp [intOf]; omega
            · obtain rfl : n = j := by omega
              rw [List.take_of_length_le (by rw [HRl.out]; exact Nat.le_refl _)] at HR
              obtain ⟨Ar, cr, hv, _⟩ := Own.form HR.out (e := eInts u8 R) (by simp)
              simp only [eInts] at hv
              obtain ⟨adf, hF, hadf, hcf, _⟩ := (HD.out.on hbw).fins.at_ HFin.out
              subst hF
              have hc3 := (HX.out.on hbw).c3
              obtain ⟨hal, _⟩ := own_bools_cell (HO2.out.on hbw) (List.mem_append_right _ List.mem_cons_self) (bF_length _ _) (bF_get (isAlive d) hlt)
              have HR2 : Hid (Own w2 wr (eRows nv (rs.map (·.1)) :: eInts u8 R :: eBools fv BS :: eDfa g [.int .i64 (n : Int), .int .i64 s, nv, fv] :: []) (eEach rs)) := Own.two HR.out
              clear HR hbw
              subst hv
              generalize isAlive d k = al at *
              obtain ⟨q2, p2⟩ := HR2.out.dcell (g := g) (l := [.int .i64 (n : Int), .int .i64 s, nv, fv]) (j := 2) (by simp) rfl
              go_wp2_with (at_builtin; refine own_row (by rfl) _ _ (by rfl) (by rfl) HR2.out (by rfl) (by rfl) HLen.out ?_)
              intro g4 cap4 w4 ho4
              have HB5 : Hid (Build w2 (w4.setCell ⟨g, 2, none⟩ (.slice (some ⟨g4, 0, none⟩) (rs.length + 1) cap4)) g [] (n : Int) s (RS ++ [R]) BS (.slice (some ⟨g4, 0, none⟩) (rs.length + 1) cap4) fv (rs ++ [(.slice Ar R.length cr, R)])) := build_row HBm.out ho4 rfl
              have HSz : Hid ((w4.setCell ⟨g, 2, none⟩ (.slice (some ⟨g4, 0, none⟩) (rs.length + 1) cap4)).heap.size = w4.heap.size) := by unfold Hid; simp
              obtain ⟨q8, p8⟩ := ho4.dcell (g := g) (l := [.int .i64 (n : Int), .int .i64 s, nv, fv]) (j := 2) (by simp) rfl
              have q3 := HB5.out.c3.1
              have HO5 := Lib.hid HB5.out.2.two
              clear ho4 HR2 q2 p2 HLen
              generalize rs.length = lrs at *
              go_wp2_with (at_builtin; refine own_bool (by rfl) _ _ (by rfl) (by rfl) HO5.out (by rw [HSz.out]; rfl) HLf.out ?_)
              intro g6 cap6 w6 ho6
              have HB7 : Hid (Build w2 (w6.setCell ⟨g, 3, none⟩ (.slice (some ⟨g6, 0, none⟩) (BS.length + 1) cap6)) g [] (n : Int) s (RS ++ [R]) (BS ++ [fK]) (.slice (some ⟨g4, 0, none⟩) (lrs + 1) cap4) (.slice (some ⟨g6, 0, none⟩) (BS.length + 1) cap6) (rs ++ [(.slice Ar R.length cr, R)])) := build_flag HB5.out.1 (by rw [List.map_append, HFk.out]; exact ho6) rfl
              obtain ⟨q9, p9⟩ := ho6.dcell (g := g) (l := [.int .i64 (n : Int), .int .i64 s, .slice (some ⟨g4, 0, none⟩) (lrs + 1) cap4, fv]) (j := 3) (by simp) rfl
              clear ho6 HO5 HB5 q8 p8 q3 HSz HLf
              go_wp2
              go_roundw
              case rel => exact ⟨k + 1, by omega, by go_num, ⟨_, _, _, by rw [HMs.out, HMf.out]; exact HB7.out⟩⟩
              case measure => simp [intOf]; omega
      · as_aux_lemma =>
          go_wp2
          clear hc2
          go_loopw [8, 9] (fun rv i wi => ∃ (j : Nat), j ≤ n ∧ i = .int .i64 j ∧ Hid (RowB w2 wi g (n : Int) s BS nv fv rs rv (R.take j))) (fun _ i _ => n - (intOf i).toNat)
          case atStart => exact ⟨0, by omega, rfl, HY⟩
          case round =>
            clear HY
            obtain ⟨j, hj, rfl, HR⟩ := hrel
            have hbw := Own.below HR.out
            have hc0 := (HX.out.on hbw).c0
            by_cases hjn : j < n
            · obtain ⟨ad, ar, mr, cr, rfl, hadb, hcell, hjm, harb, hac⟩ := (HD.out.on hbw).step_at HG.out HKn.out (i := j) (by rw [HE.out.1]; omega)
              obtain ⟨adf, hF, hadf, hcf, _⟩ := (HD.out.on hbw).fins.at_ HFin.out
              subst hF
              have hRj := HRg.out j hjn
              have hTk := take_succ' R (List.getElem?_eq_getElem (List.getElem?_eq_some_iff.1 hRj).1)
              rw [(List.getElem?_eq_some_iff.1 hRj).2] at hTk
              have hlen : (R.take j).length < 17592186044416 := by rw [List.length_take]; omega
              have hc2 := (HX.out.on hbw).c2
              have hc3 := (HX.out.on hbw).c3
              have e4 : (j : Int) < (mr : Int) := by omega
              have HTk := Lib.hid hTk
              have HR1 : Hid (Own w2 wr (eInts u8 (R.take j) :: eRows nv (rs.map (·.1)) :: eBools fv BS :: eDfa g [.int .i64 (n : Int), .int .i64 s, nv, fv] :: []) (eEach rs)) := HR.out
              clear hRj hTk hbw HR
              generalize Df.step d k j = u at *
              generalize R.take j = Rj at *
              go_wp2_with (at_builtin; refine own_int (by rfl) _ _ (by rfl) (by rfl) HR1.out (by rfl) hlen ?_)
              intro g5 cap5 w5 ho5
              have HO5 : Hid (RowB w2 w5 g (n : Int) s BS nv fv rs (.slice (some ⟨g5, 0, none⟩) (Rj.length + 1) cap5) (R.take (j + 1))) := by rw [HTk.out]; exact ho5
              clear ho5 HR1 hcell hac hcf hc0 hc2 hc3 HTk
              generalize Rj.length = lj at *
              go_wp2
              go_roundw
              case rel => exact ⟨j + 1, by omega, by go_num, HO5⟩
              case measure => simp [intOf]; omega
            · obtain rfl : n = j := by omega
              rw [List.take_of_length_le (by rw [HRl.out]; exact Nat.le_refl _)] at HR
              obtain ⟨Ar, cr, hv, _⟩ := Own.form HR.out (e := eInts u8 R) (by simp)
              simp only [eInts] at hv
              obtain ⟨adf, hF, hadf, hcf, _⟩ := (HD.out.on hbw).fins.at_ HFin.out
              subst hF
              have hc3 := (HX.out.on hbw).c3
              obtain ⟨hal, _⟩ := own_bools_cell (HO2.out.on hbw) (List.mem_append_right _ List.mem_cons_self) (bF_length _ _) (bF_get (isAlive d) hlt)
              have HR2 : Hid (Own w2 wr (eRows nv (rs.map (·.1)) :: eInts u8 R :: eBools fv BS :: eDfa g [.int .i64 (n : Int), .int .i64 s, nv, fv] :: []) (eEach rs)) := Own.two HR.out
              clear HR hbw
              subst hv
              generalize isAlive d k = al at *
              obtain ⟨q2, p2⟩ := HR2.out.dcell (g := g) (l := [.int .i64 (n : Int), .int .i64 s, nv, fv]) (j := 2) (by simp) rfl
              go_wp2_with (at_builtin; refine own_row (by rfl) _ _ (by rfl) (by rfl) HR2.out (by rfl) (by rfl) HLen.out ?_)
              intro g4 cap4 w4 ho4
              have HB5 : Hid (Build w2 (w4.setCell ⟨g, 2, none⟩ (.slice (some ⟨g4, 0, none⟩) (rs.length + 1) cap4)) g [] (n : Int) s (RS ++ [R]) BS (.slice (some ⟨g4, 0, none⟩) (rs.length + 1) cap4) fv (rs ++ [(.slice Ar R.length cr, R)])) := build_row HBm.out ho4 rfl
              have HSz : Hid ((w4.setCell ⟨g, 2, none⟩ (.slice (some ⟨g4, 0, none⟩) (rs.length + 1) cap4)).heap.size = w4.heap.size) := by unfold Hid; simp
              obtain ⟨q8, p8⟩ := ho4.dcell (g := g) (l := [.int .i64 (n : Int), .int .i64 s, nv, fv]) (j := 2) (by simp) rfl
              have q3 := HB5.out.c3.1
              have HO5 := Lib.hid HB5.out.2.two
              clear ho4 HR2 q2 p2 HLen
              generalize rs.length = lrs at *
              go_wp2_with (at_builtin; refine own_bool (by rfl) _ _ (by rfl) (by rfl) HO5.out (by rw [HSz.out]; rfl) HLf.out ?_)
              intro g6 cap6 w6 ho6
              have HB7 : Hid (Build w2 (w6.setCell ⟨g, 3, none⟩ (.slice (some ⟨g6, 0, none⟩) (BS.length + 1) cap6)) g [] (n : Int) s (RS ++ [R]) (BS ++ [fK]) (.slice (some ⟨g4, 0, none⟩) (lrs + 1) cap4) (.slice (some ⟨g6, 0, none⟩) (BS.length + 1) cap6) (rs ++ [(.slice Ar R.length cr, R)])) := build_flag HB5.out.1 (by rw [List.map_append, HFk.out]; exact ho6) rfl
              obtain ⟨q9, p9⟩ := ho6.dcell (g := g) (l := [.int .i64 (n : Int), .int .i64 s, .slice (some ⟨g4, 0, none⟩) (lrs + 1) cap4, fv]) (j := 3) (by simp) rfl
              clear ho6 HO5 HB5 q8 p8 q3 HSz HLf
              go_wp2
              go_roundw
              case rel => exact ⟨k + 1, by omega, by go_num, ⟨_, _, _, by rw [HMs.out, HMf.out]; exact HB7.out⟩⟩
              case measure => simp [intOf]; omega
      · as_aux_lemma =>
          go_wp2
          clear hc2
          go_loopw [8, 9] (fun rv i wi => ∃ (j : Nat), j ≤ n ∧ i = .int .i64 j ∧ Hid (RowB w2 wi g (n : Int) s BS nv fv rs rv (R.take j))) (fun _ i _ => n - (intOf i).toNat)
          case atStart => exact ⟨0, by omega, rfl, HY⟩
          case round =>
            clear HY
            obtain ⟨j, hj, rfl, HR⟩ := hrel
            have hbw := Own.below HR.out
            have hc0 := (HX.out.on hbw).c0
            by_cases hjn : j < n
            · obtain ⟨ad, ar, mr, cr, rfl, hadb, hcell, hjm, harb, hac⟩ := (HD.out.on hbw).step_at HG.out HKn.out (i := j) (by rw [HE.out.1]; omega)
              obtain ⟨adf, hF, hadf, hcf, _⟩ := (HD.out.on hbw).fins.at_ HFin.out
              subst hF
              have hRj := HRg.out j hjn
              have hTk := take_succ' R (List.getElem?_eq_getElem (List.getElem?_eq_some_iff.1 hRj).1)
              rw [(List.getElem?_eq_some_iff.1 hRj).2] at hTk
              have hlen : (R.take j).length < 17592186044416 := by rw [List.length_take]; omega
              have hc2 := (HX.out.on hbw).c2
              have hc3 := (HX.out.on hbw).c3
              have e4 : (j : Int) < (mr : Int) := by omega
              have HTk := Lib.hid hTk
              have HR1 : Hid (Own w2 wr (eInts u8 (R.take j) :: eRows nv (rs.map (·.1)) :: eBools fv BS :: eDfa g [.int .i64 (n : Int), .int .i64 s, nv, fv] :: []) (eEach rs)) := HR.out
              clear hRj hTk hbw HR
              generalize Df.step d k j = u at *
              generalize R.take j = Rj at *
              go_wp2_with (at_builtin; refine own_int (by rfl) _ _ (by rfl) (by rfl) HR1.out (by rfl) hlen ?_)
              intro g5 cap5 w5 ho5
              have HO5 : Hid (RowB w2 w5 g (n : Int) s BS nv fv rs (.slice (some ⟨g5, 0, none⟩) (Rj.length + 1) cap5) (R.take (j + 1))) := by rw [HTk.out]; exact ho5
              clear ho5 HR1 hcell hac hcf hc0 hc2 hc3 HTk
              generalize Rj.length = lj at *
              go_wp2
              go_roundw
              case rel => exact ⟨j + 1, by omega, by go_num, HO5⟩
              case measure => simp [intOf]; omega
            · obtain rfl : n = j := by omega
              rw [List.take_of_length_le (by rw [HRl.out]; exact Nat.le_refl _)] at HR
              obtain ⟨Ar, cr, hv, _⟩ := Own.form HR.out (e := eInts u8 R) (by simp)
              simp only [eInts] at hv
              obtain ⟨adf, hF, hadf, hcf, _⟩ := (HD.out.on hbw).fins.at_ HFin.out
              subst hF
              have hc3 := (HX.out.on hbw).c3
              obtain ⟨hal, _⟩ := own_bools_cell (HO2.out.on hbw) (List.mem_append_right _ List.mem_cons_self) (bF_length _ _) (bF_get (isAlive d) hlt)
              have HR2 : Hid (Own w2 wr (eRows nv (rs.map (·.1)) :: eInts u8 R :: eBools fv BS :: eDfa g [.int .i64 (n : Int), .int .i64 s, nv, fv] :: []) (eEach rs)) := Own.two HR.out
              clear HR hbw
              subst hv
              generalize isAlive d k = al at *
              obtain ⟨q2, p2⟩ := HR2.out.dcell (g := g) (l := [.int .i64 (n : Int), .int .i64 s, nv, fv]) (j := 2) (by simp) rfl
              go_wp2_with (at_builtin; refine own_row (by rfl) _ _ (by rfl) (by rfl) HR2.out (by rfl) (by rfl) HLen.out ?_)
              intro g4 cap4 w4 ho4
              have HB5 : Hid (Build w2 (w4.setCell ⟨g, 2, none⟩ (.slice (some ⟨g4, 0, none⟩) (rs.length + 1) cap4)) g [] (n : Int) s (RS ++ [R]) BS (.slice (some ⟨g4, 0, none⟩) (rs.length + 1) cap4) fv (rs ++ [(.slice Ar R.length cr, R)])) := build_row HBm.out ho4 rfl
              have HSz : Hid ((w4.setCell ⟨g, 2, none⟩ (.slice (some ⟨g4, 0, none⟩) (rs.length + 1) cap4)).heap.size = w4.heap.size) := by unfold Hid; simp
              obtain ⟨q8, p8⟩ := ho4.dcell (g := g) (l := [.int .i64 (n : Int), .int .i64 s, nv, fv]) (j := 2) (by simp) rfl
              have q3 := HB5.out.c3.1
              have HO5 := Lib.hid HB5.out.2.two
              clear ho4 HR2 q2 p2 HLen
              generalize rs.length = lrs at *
              go_wp2_with (at_builtin; refine own_bool (by rfl) _ _ (by rfl) (by rfl) HO5.out (by rw [HSz.out]; rfl) HLf.out ?_)
              intro g6 cap6 w6 ho6
              have HB7 : Hid (Build w2 (w6.setCell ⟨g, 3, none⟩ (.slice (some ⟨g6, 0, none⟩) (BS.length + 1) cap6)) g [] (n : Int) s (RS ++ [R]) (BS ++ [fK]) (.slice (some ⟨g4, 0, none⟩) (lrs + 1) cap4) (.slice (some ⟨g6, 0, none⟩) (BS.length + 1) cap6) (rs ++ [(.slice Ar R.length cr, R)])) := build_flag HB5.out.1 (by rw [List.map_append, HFk.out]; exact ho6) rfl
              obtain ⟨q9, p9⟩ := ho6.dcell (g := g) (l := [.int .i64 (n : Int), .int .i64 s, .slice (some ⟨g4, 0, none⟩) (lrs + 1) cap4, fv]) (j := 3) (by simp) rfl
              clear ho6 HO5 HB5 q8 p8 q3 HSz HLf
              go_wp2
              go_roundw
              case rel => exact ⟨k + 1, by omega, by go_num, ⟨_, _, _, by rw [HMs.out, HMf.out]; exact HB7.out⟩⟩
              case measure => simp [intOf]; omega
      · as_aux_lemma =>
          go_wp2
          clear hc2
          go_loopw [8, 9] (fun rv i wi => ∃ (j : Nat), j ≤ n ∧ i = .int .i64 j ∧ Hid (RowB w2 wi g (n : Int) s BS nv fv rs rv (R.take j))) (fun _ i _ => n - (intOf i).toNat)
          case atStart => exact ⟨0, by omega, rfl, HY⟩
          case round =>
            clear HY
            obtain ⟨j, hj, rfl, HR⟩ := hrel
            have hbw := Own.below HR.out
            have hc0 := (HX.out.on hbw).c0
            by_cases hjn : j < n
            · obtain ⟨ad, ar, mr, cr, rfl, hadb, hcell, hjm, harb, hac⟩ := (HD.out.on hbw).step_at HG.out HKn.out (i := j) (by rw [HE.out.1]; omega)
              obtain ⟨adf, hF, hadf, hcf, _⟩ := (HD.out.on hbw).fins.at_ HFin.out
              subst hF
              have hRj := HRg.out j hjn
              have hTk := take_succ' R (List.getElem?_eq_getElem (List.getElem?_eq_some_iff.1 hRj).1)
              rw [(List.getElem?_eq_some_iff.1 hRj).2] at hTk
              have hlen : (R.take j).length < 17592186044416 := by rw [List.length_take]; omega
              have hc2 := (HX.out.on hbw).c2
              have hc3 := (HX.out.on hbw).c3
              have e4 : (j : Int) < (mr : Int) := by omega
              have HTk := Lib.hid hTk
              have HR1 : Hid (Own w2 wr (eInts u8 (R.take j) :: eRows nv (rs.map (·.1)) :: eBools fv BS :: eDfa g [.int .i64 (n : Int), .int .i64 s, nv, fv] :: []) (eEach rs)) := HR.out
              clear hRj hTk hbw HR
              generalize Df.step d k j = u at *
              generalize R.take j = Rj at *
              go_wp2_with (at_builtin; refine own_int (by rfl) _ _ (by rfl) (by rfl) HR1.out (by rfl) hlen ?_)
              intro g5 cap5 w5 ho5
              have HO5 : Hid (RowB w2 w5 g (n : Int) s BS nv fv rs (.slice (some ⟨g5, 0, none⟩) (Rj.length + 1) cap5) (R.take (j + 1))) := by rw [HTk.out]; exact ho5
              clear ho5 HR1 hcell hac hcf hc0 hc2 hc3 HTk
              generalize Rj.length = lj at *
              go_wp2
              go_roundw
              case rel => exact ⟨j + 1, by omega, by go_num, HO5⟩
              case measure => simp [intOf]; omega
            · obtain rfl : n = j := by omega
              rw [List.take_of_length_le (by rw [HRl.out]; exact Nat.le_refl _)] at HR
              obtain ⟨Ar, cr, hv, _⟩ := Own.form HR.out (e := eInts u8 R) (by simp)
              simp only [eInts] at hv
              obtain ⟨adf, hF, hadf, hcf, _⟩ := (HD.out.on hbw).fins.at_ HFin.out
              subst hF
              have hc3 := (HX.out.on hbw).c3
              obtain ⟨hal, _⟩ := own_bools_cell (HO2.out.on hbw) (List.mem_append_right _ List.mem_cons_self) (bF_length _ _) (bF_get (isAlive d) hlt)
              have HR2 : Hid (Own w2 wr (eRows nv (rs.map (·.1)) :: eInts u8 R :: eBools fv BS :: eDfa g [.int .i64 (n : Int), .int .i64 s, nv, fv] :: []) (eEach rs)) := Own.two HR.out
              clear HR hbw
              subst hv
              generalize isAlive d k = al at *
              rcases al with _ | _
              all_goals
                obtain ⟨q2, p2⟩ := HR2.out.dcell (g := g) (l := [.int .i64 (n : Int), .int .i64 s, nv, fv]) (j := 2) (by simp) rfl
                go_wp2_with (at_builtin; refine own_row (by rfl) _ _ (by rfl) (by rfl) HR2.out (by rfl) (by rfl) HLen.out ?_)
                intro g4 cap4 w4 ho4
                have HB5 : Hid (Build w2 (w4.setCell ⟨g, 2, none⟩ (.slice (some ⟨g4, 0, none⟩) (rs.length + 1) cap4)) g [] (n : Int) s (RS ++ [R]) BS (.slice (some ⟨g4, 0, none⟩) (rs.length + 1) cap4) fv (rs ++ [(.slice Ar R.length cr, R)])) := build_row HBm.out ho4 rfl
                have HSz : Hid ((w4.setCell ⟨g, 2, none⟩ (.slice (some ⟨g4, 0, none⟩) (rs.length + 1) cap4)).heap.size = w4.heap.size) := by unfold Hid; simp
                obtain ⟨q8, p8⟩ := ho4.dcell (g := g) (l := [.int .i64 (n : Int), .int .i64 s, nv, fv]) (j := 2) (by simp) rfl
                have q3 := HB5.out.c3.1
                have HO5 := Lib.hid HB5.out.2.two
                clear ho4 HR2 q2 p2 HLen
                generalize rs.length = lrs at *
                go_wp2_with (at_builtin; refine own_bool (by rfl) _ _ (by rfl) (by rfl) HO5.out (by rw [HSz.out]; rfl) HLf.out ?_)
                intro g6 cap6 w6 ho6
                have HB7 : Hid (Build w2 (w6.setCell ⟨g, 3, none⟩ (.slice (some ⟨g6, 0, none⟩) (BS.length + 1) cap6)) g [] (n : Int) s (RS ++ [R]) (BS ++ [fK]) (.slice (some ⟨g4, 0, none⟩) (lrs + 1) cap4) (.slice (some ⟨g6, 0, none⟩) (BS.length + 1) cap6) (rs ++ [(.slice Ar R.length cr, R)])) := build_flag HB5.out.1 (by rw [List.map_append, HFk.out]; exact ho6) rfl
                obtain ⟨q9, p9⟩ := ho6.dcell (g := g) (l := [.int .i64 (n : Int), .int .i64 s, .slice (some ⟨g4, 0, none⟩) (lrs + 1) cap4, fv]) (j := 3) (by simp) rfl
                clear ho6 HO5 HB5 q8 p8 q3 HSz HLf
                go_wp2
                go_roundw
                case rel => exact ⟨k + 1, by omega, by go_num, ⟨_, _, _, by rw [HMs.out, HMf.out]; exact HB7.out⟩⟩
                case measure => simp [intOf]; omega
      · as_aux_lemma =>
          go_wp2
          clear hc2
          go_loopw [8, 9] (fun rv i wi => ∃ (j : Nat), j ≤ n ∧ i = .int .i64 j ∧ Hid (RowB w2 wi g (n : Int) s BS nv fv rs rv (R.take j))) (fun _ i _ => n - (intOf i).toNat)
          case atStart => exact ⟨0, by omega, rfl, HY⟩
          case round =>
            clear HY
            obtain ⟨j, hj, rfl, HR⟩ := hrel
            have hbw := Own.below HR.out
            have hc0 := (HX.out.on hbw).c0
            by_cases hjn : j < n
            · obtain ⟨ad, ar, mr, cr, rfl, hadb, hcell, hjm, harb, hac⟩ := (HD.out.on hbw).step_at HG.out HKn.out (i := j) (by rw [HE.out.1]; omega)
              obtain ⟨adf, hF, hadf, hcf, _⟩ := (HD.out.on hbw).fins.at_ HFin.out
              subst hF
              have hRj := HRg.out j hjn
              have hTk := take_succ' R (List.getElem?_eq_getElem (List.getElem?_eq_some_iff.1 hRj).1)
              rw [(List.getElem?_eq_some_iff.1 hRj).2] at hTk
              have hlen : (R.take j).length < 17592186044416 := by rw [List.length_take]; omega
              have hc2 := (HX.out.on hbw).c2
              have hc3 := (HX.out.on hbw).c3
              have e4 : (j : Int) < (mr : Int) := by omega
              have HTk := Lib.hid hTk
              have HR1 : Hid (Own w2 wr (eInts u8 (R.take j) :: eRows nv (rs.map (·.1)) :: eBools fv BS :: eDfa g [.int .i64 (n : Int), .int .i64 s, nv, fv] :: []) (eEach rs)) := HR.out
              clear hRj hTk hbw HR
              generalize Df.step d k j = u at *
              generalize R.take j = Rj at *
              go_wp2_with (at_builtin; refine own_int (by rfl) _ _ (by rfl) (by rfl) HR1.out (by rfl) hlen ?_)
              intro g5 cap5 w5 ho5
              have HO5 : Hid (RowB w2 w5 g (n : Int) s BS nv fv rs (.slice (some ⟨g5, 0, none⟩) (Rj.length + 1) cap5) (R.take (j + 1))) := by rw [HTk.out]; exact ho5
              clear ho5 HR1 hcell hac hcf hc0 hc2 hc3 HTk
              generalize Rj.length = lj at *
              go_wp2
              go_roundw
              case rel => exact ⟨j + 1, by omega, by go_num, HO5⟩
              case measure => simp [intOf]; omega
            · obtain rfl : n = j := by omega
              rw [List.take_of_length_le (by rw [HRl.out]; exact Nat.le_refl _)] at HR
              obtain ⟨Ar, cr, hv, _⟩ := Own.form HR.out (e := eInts u8 R) (by simp)
              simp only [eInts] at hv
              obtain ⟨adf, hF, hadf, hcf, _⟩ := (HD.out.on hbw).fins.at_ HFin.out
              subst hF
              have hc3 := (HX.out.on hbw).c3
              obtain ⟨hal, _⟩ := own_bools_cell (HO2.out.on hbw) (List.mem_append_right _ List.mem_cons_self) (bF_length _ _) (bF_get (isAlive d) hlt)
              have HR2 : Hid (Own w2 wr (eRows nv (rs.map (·.1)) :: eInts u8 R :: eBools fv BS :: eDfa g [.int .i64 (n : Int), .int .i64 s, nv, fv] :: []) (eEach rs)) := Own.two HR.out
              clear HR hbw
              subst hv
              generalize isAlive d k = al at *
              rcases al with _ | _
              all_goals
                obtain ⟨q2, p2⟩ := HR2.out.dcell (g := g) (l := [.int .i64 (n : Int), .int .i64 s, nv, fv]) (j := 2) (by simp) rfl
                go_wp2_with (at_builtin; refine own_row (by rfl) _ _ (by rfl) (by rfl) HR2.out (by rfl) (by rfl) HLen.out ?_)
                intro g4 cap4 w4 ho4
                have HB5 : Hid (Build w2 (w4.setCell ⟨g, 2, none⟩ (.slice (some ⟨g4, 0, none⟩) (rs.length + 1) cap4)) g [] (n : Int) s (RS ++ [R]) BS (.slice (some ⟨g4, 0, none⟩) (rs.length + 1) cap4) fv (rs ++ [(.slice Ar R.length cr, R)])) := build_row HBm.out ho4 rfl
                have HSz : Hid ((w4.setCell ⟨g, 2, none⟩ (.slice (some ⟨g4, 0, none⟩) (rs.length + 1) cap4)).heap.size = w4.heap.size) := by unfold Hid; simp
                obtain ⟨q8, p8⟩ := ho4.dcell (g := g) (l := [.int .i64 (n : Int), .int .i64 s, nv, fv]) (j := 2) (by simp) rfl
                have q3 := HB5.out.c3.1
                have HO5 := Lib.hid HB5.out.2.two
                clear ho4 HR2 q2 p2 HLen
                generalize rs.length = lrs at *
                go_wp2_with (at_builtin; refine own_bool (by rfl) _ _ (by rfl) (by rfl) HO5.out (by rw [HSz.out]; rfl) HLf.out ?_)
                intro g6 cap6 w6 ho6
                have HB7 : Hid (Build w2 (w6.setCell ⟨g, 3, none⟩ (.slice (some ⟨g6, 0, none⟩) (BS.length + 1) cap6)) g [] (n : Int) s (RS ++ [R]) (BS ++ [fK]) (.slice (some ⟨g4, 0, none⟩) (lrs + 1) cap4) (.slice (some ⟨g6, 0, none⟩) (BS.length + 1) cap6) (rs ++ [(.slice Ar R.length cr, R)])) := build_flag HB5.out.1 (by rw [List.map_append, HFk.out]; exact ho6) rfl
                obtain ⟨q9, p9⟩ := ho6.dcell (g := g) (l := [.int .i64 (n : Int), .int .i64 s, .slice (some ⟨g4, 0, none⟩) (lrs + 1) cap4, fv]) (j := 3) (by simp) rfl
                clear ho6 HO5 HB5 q8 p8 q3 HSz HLf
                go_wp2
                go_roundw
                case rel => exact ⟨k + 1, by omega, by go_num, ⟨_, _, _, by rw [HMs.out, HMf.out]; exact HB7.out⟩⟩
                case measure => simp [intOf]; omega
    · obtain rfl : k = N := by omega
      have HG2 := Lib.hid HBd.out
      obtain ⟨A2, c2, F2, cf2, e1, e2⟩ := HG2.out.form
      obtain ⟨hg0, hg1, hg2, hg3⟩ := HG2.out.str
      have hJ := HO2.out.join HG2.out.2
      have hJ2 := Own.pull 3 hJ (by simp)
      simp only [List.getElem_cons_succ, List.getElem_cons_zero, List.cons_append, List.nil_append, List.eraseIdx_cons_succ, List.eraseIdx_cons_zero] at hJ2
      obtain ⟨hr0, hf0⟩ := hJ2.dcell (g := w.heap.size + 1) (l := zero4) (j := 0) (by simp) rfl
      obtain ⟨hr1, hf1⟩ := hJ2.dcell (g := w.heap.size + 1) (l := zero4) (j := 1) (by simp) rfl
      obtain ⟨hr2, hf2⟩ := hJ2.dcell (g := w.heap.size + 1) (l := zero4) (j := 2) (by simp) rfl
      obtain ⟨hr3, hf3⟩ := hJ2.dcell (g := w.heap.size + 1) (l := zero4) (j := 3) (by simp) rfl
      have hrs : rs.map (·.2) = (safeK kind d).next := by rw [HG2.out.1, ← HN.out]; rfl
      have HEnd := Lib.hid (own_end (nv := nv) (fv := fv) (bs := (List.range k).map (finK kind d)) (rs := rs) hJ2 (fun e he => by simp only [List.mem_cons, List.mem_append] at he ⊢; rcases he with rfl | rfl | he <;> simp [*]) (rows_small HSm.out hrs) HLS.out.1 HLS.out.2 rfl)
      rw [hrs] at HEnd
      have HRes : Hid ((⟨(n : Int), s, (safeK kind d).next, (List.range k).map (finK kind d)⟩ : Aut) = safeK kind d) := by
        unfold Hid safeK
        rw [HE.out.1, HE.out.2, HN.out]
      clear hJ hJ2 hrs HBd hbw HXw HG2
      rw [List.length_map, List.length_range] at e1 e2
      subst e1 e2
      go_wp2
      obtain ⟨k1, k3, k4, k5, k6⟩ := HEnd.out
      rw [HRes.out] at k1
      refine bodyPost_ret (res_safe rfl _ rfl k3 k4 k5 k6) rfl ⟨_, rfl, k1.base HB.out⟩
end Go.Proofs.YtciopfiddfmckaaDoor.Sa
