/- The walk of the document's answer for package dfa: stilewardref1's Not. -/
import Derived.Test.YtloihkoamccacaaDoorRefDfa
namespace Go.Proofs.YtloihkoamccacaaDoor.Df
open Go.RowKit Go.IntWalk Go.Proofs.YtloihkoamccacaaDoor.Wd Go.Proofs.YtloihkoamccacaaDoor.Wo

theorem size_al' (w : World) (o : Obj) : (w.alloc o).heap.size = w.heap.size + 1 := by simp
/-- A function that returns an automaton out of its own block. -/
theorem res_one {fn : Func} {t : Tmp} (h : fn.results = #[.cell t 25]) (tmps : Array Value) {w : World} {g : Nat} {v0 v1 v2 v3 : Value} (hp : tmps.getD t undef = .pointer (some ⟨g, 0, none⟩))
    (c0 : w.cell? ⟨g, 0, none⟩ = some v0) (c1 : w.cell? ⟨g, 1, none⟩ = some v1) (c2 : w.cell? ⟨g, 2, none⟩ = some v2) (c3 : w.cell? ⟨g, 3, none⟩ = some v3) :
    (results fn tmps).run Tryd.prog w = .ok (.agg #[v0, v1, v2, v3]) w := by
  have hp' : tmps[t]?.getD undef = .pointer (some ⟨g, 0, none⟩) := by simpa using hp
  simp [results, h, hp', go_sem, c0, c1, c2, c3]
set_option maxRecDepth 100000 in
set_option maxHeartbeats 2000000 in
theorem rnot_any (v : Value) (d : Aut) (w : World) (h : DfaAt w w.heap.size v d) (hgood : Good d) :
    Calls Tryd.prog 13 #[v] w fun e w' => Hid (∃ x, e = .returned x ∧ DfaOwn w w' x (notA d)) := by
  obtain ⟨L, s, A, c, F, cf, rfl, h⟩ := h
  obtain ⟨w1, hw1, hB1, hX, hd1⟩ := box_dfa w h
  have HB := Lib.hid hB1
  have HX := Lib.hid hX
  have HW := Lib.hid hw1
  have HD := Lib.hid hd1
  have hsz : w1.heap.size = w.heap.size + 1 := by rw [hw1]; simp
  have HO := (own_start w1).dfa (.int .i64 0) (.int .i64 0) (.slice none 0 0) (.slice none 0 0)
  rw [hsz] at HO
  have HG := Lib.hid hgood
  have hn : d.next.length ≤ 40 := hgood.n40
  have HE : Hid (d.L = L ∧ d.s = s) := ⟨h.eL, h.es⟩
  have HS0 := HO.dfa (.int .i64 L) (.int .i64 s) (.slice none 0 0) (.slice none 0 0)
  rw [size_al', hsz] at HS0
  have HS : Hid (Build w1 ((w1.alloc (.cells #[.int .i64 0, .int .i64 0, .slice none 0 0, .slice none 0 0] 25)).alloc (.cells #[.int .i64 L, .int .i64 s, .slice none 0 0, .slice none 0 0] 25)) (w.heap.size + 1 + 1) [eDfa (w.heap.size + 1) zero4] L s (d.next.take 0) ((d.fin.take 0).map (!·)) (.slice none 0 0) (.slice none 0 0) []) :=
    ⟨rfl, ((HS0.nil 4 1).nil 43 1)⟩
  clear h hd1 hw1 hX hB1 hsz HO HS0 hgood
  go_enter Tryd.func13, Tryd.ntmps13
  go_wp2
  rw [← HW.out]
  go_loopw [4] (fun i wr => ∃ (k : Nat), k ≤ d.next.length ∧ i = .int .i64 k ∧ Hid (∃ nv fv rs, Build w1 wr (w.heap.size + 1 + 1) [eDfa (w.heap.size + 1) zero4] L s (d.next.take k) ((d.fin.take k).map (!·)) nv fv rs)) (fun i _ => d.next.length - (intOf i).toNat)
  case atStart => exact ⟨0, by omega, rfl, _, _, _, HS.out⟩
  case round =>
    clear HS HW
    obtain ⟨k, hk, rfl, HS⟩ := hrel
    obtain ⟨nv, fv, rs, ho⟩ := HS.out
    have HO := Lib.hid ho
    have hbw := ho.2.below
    have hXw := HX.out.on hbw
    have hDw := HD.out.on hbw
    clear HS ho hbw
    by_cases hlt : k < d.next.length
    · obtain ⟨ad, A', c', rfl, hadb, hcell, hrc, hcc, hri⟩ := hDw.rows k _ (List.getElem?_eq_getElem hlt)
      have hrl := HG.out.row _ (List.getElem_mem hlt)
      have hL1 := HG.out.l1
      have hL6 := HG.out.l6
      obtain ⟨adr, hA'⟩ : ∃ adr, A' = some adr := by
        obtain ⟨adr, hA', _⟩ := hri.at_ 0 (by omega)
        exact ⟨adr, hA'⟩
      subst hA'
      have HRi := Lib.hid hri
      have HNil := Lib.hid (HO.out.2.nil 3 1)
      have h0 : 0 < d.next[k].length := by omega
      have h17 : d.next[k].length ≤ 17592186044416 := by omega
      have hcx2 := hXw.c2
      have HLen : Hid ((rs.map (·.1)).length < 1099511627776) := by
        have := congrArg List.length HO.out.1
        rw [List.length_map, List.length_take] at this
        unfold Hid; rw [List.length_map]; omega
      have HTk := Lib.hid (take_succ' d.next (List.getElem?_eq_getElem hlt))
      have hlf : k < d.fin.length := by rw [HG.out.fin]; exact hlt
      have HE2 : Hid ((d.fin.take (k + 1)).map (!·) = (d.fin.take k).map (!·) ++ [!d.fin[k]]) := take_succ_map _ _ (List.getElem?_eq_getElem hlf)
      have HFk : Hid (d.fin[k]? = some d.fin[k]) := List.getElem?_eq_getElem hlf
      have HLf : Hid (((d.fin.take k).map (!·)).length < 17592186044416) := by
        unfold Hid; rw [List.length_map, List.length_take]; omega
      have hlf' : (k : Int) < (d.fin.length : Int) := by omega
      clear hrl hL1 hL6 hri hrc hcc hDw hXw
      generalize d.next[k] = r0 at *
      generalize (d.fin.take k).map (!·) = bs at *
      generalize d.fin[k] = b at *
      go_wp2_with (at_builtin; refine own_ints (l := []) (by rfl) _ _ (by rfl) (by rfl) HNil.out (by rfl) HRi.out h0 (by simpa using h17) ?_)
      intro g3 cap3 w3 ho3
      have HO3 := Lib.hid ho3
      obtain ⟨hk3, hk3f⟩ := ho3.dcell (g := w.heap.size + 1 + 1) (l := [.int .i64 L, .int .i64 s, nv, fv]) (j := 2) (by simp) rfl
      clear ho3 HNil hcell hcx2
      try simp only [List.length_nil, Nat.zero_add, List.nil_append] at *
      go_wp2_with (at_builtin; refine own_row (by rfl) _ _ (by rfl) (by rfl) HO3.out.two (by rfl) (by rfl) HLen.out ?_)
      intro g4 cap4 w4 ho4
      have hlr : rs.length = (rs.map (·.1)).length := (List.length_map _).symm
      have HB5 : Hid (∃ rs', Build w1 (w4.setCell ⟨w.heap.size + 1 + 1, 2, none⟩ (.slice (some ⟨g4, 0, none⟩) (rs.length + 1) cap4)) (w.heap.size + 1 + 1) [eDfa (w.heap.size + 1) zero4] L s (d.next.take (k + 1)) bs (.slice (some ⟨g4, 0, none⟩) (rs.length + 1) cap4) fv rs') := by
        rw [HTk.out]
        exact ⟨_, build_row HO.out.1 ho4 rfl⟩
      obtain ⟨hk8, hf8⟩ := ho4.dcell (g := w.heap.size + 1 + 1) (l := [.int .i64 L, .int .i64 s, nv, fv]) (j := 2) (by simp) rfl
      clear HO3 HO hk3 hk3f HLen ho4 hlr HTk HRi
      go_wp2_with fail
      generalize hw9 : w4.setCell ⟨w.heap.size + 1 + 1, 2, none⟩ (.slice (some ⟨g4, 0, none⟩) (rs.length + 1) cap4) = w9 at *
      generalize (Value.slice (some ⟨g4, 0, none⟩) (rs.length + 1) cap4) = nv5 at *
      clear hw9 hk8 hf8
      obtain ⟨rs5, hb5⟩ := HB5.out
      have HB6 := Lib.hid hb5
      have hbw := hb5.2.below
      obtain ⟨adf, hF, hadf, hcf, _⟩ := (HD.out.on hbw).fins.at_ HFk.out
      subst hF
      have hX5 := HX.out.on hbw
      have hc3 := hX5.c3
      have hc3' := hb5.c3.1
      have hc3l := hb5.lt.2
      have hc5l := hX5.lt
      have HO5 := Lib.hid hb5.2.two
      clear hbw hX5 HB5 hb5
      go_region_law
        ((refine step_own_bool (by rfl) _ _ (by rfl) (by rfl) (HO5.out.on (Below.refl _ _).drew) (by rfl) HLf.out ?_; intro g6 cap6 w6 ho6; have HO6 := Lib.hid ho6; have hk4 := (ho6.dcell (g := w.heap.size + 1 + 1) (l := [.int .i64 L, .int .i64 s, nv5, fv]) (j := 3) (by simp) rfl); have hk5 := hk4.1; have hk6 := hk4.2; clear ho6 hk4))
      all_goals
        have HB7 : Hid (∃ nv' fv' rs', Build w1 (w6.setCell ⟨w.heap.size + 1 + 1, 3, none⟩ (.slice (some ⟨g6, 0, none⟩) (bs.length + 1) cap6)) (w.heap.size + 1 + 1) [eDfa (w.heap.size + 1) zero4] L s (d.next.take (k + 1)) ((d.fin.take (k + 1)).map (!·)) nv' fv' rs') := by
          rw [HE2.out]
          exact ⟨_, _, _, build_flag HB6.out.1 HO6.out rfl⟩
        clear HO5 HO6 HB6 hk5 hk6 HLf hc3 hc3' hc3l hc5l hcf
        go_wp2
        go_roundw
        case rel => exact ⟨k + 1, by omega, by go_num, HB7⟩
        case measure => simp [intOf]; omega
    · obtain rfl : k = d.next.length := by omega
      have HG2 := Lib.hid HO.out
      have hcx2 := hXw.c2
      rw [List.take_length, List.take_of_length_le (by rw [HG.out.fin]; exact Nat.le_refl _)] at HG2
      have HSm : Hid (∀ r ∈ d.next, ∀ x ∈ r, Small x) := good_small HG.out
      have HL : Hid (Small L ∧ Small s) := ⟨by rw [← HE.out.1]; exact HG.out.small_L, by rw [← HE.out.2]; exact HG.out.small_s⟩
      have HNo : Hid (notA d = ⟨L, s, d.next, d.fin.map (!·)⟩) := by unfold notA Hid; rw [HE.out.1, HE.out.2]
      clear HO hDw hXw
      generalize d.fin.map (!·) = bs at *
      obtain ⟨A2, c2, F2, cf2, e1, e2⟩ := HG2.out.form
      obtain ⟨hg0, hg1, hg2, hg3⟩ := HG2.out.str
      obtain ⟨hr0, hf0⟩ := HG2.out.res (j := 0) (by omega)
      obtain ⟨hr1, hf1⟩ := HG2.out.res (j := 1) (by omega)
      obtain ⟨hr2, hf2⟩ := HG2.out.res (j := 2) (by omega)
      obtain ⟨hr3, hf3⟩ := HG2.out.res (j := 3) (by omega)
      subst e1 e2
      have HEnd := Lib.hid (build_end HG2.out HSm.out HL.out.1 HL.out.2 rfl)
      go_wp2
      obtain ⟨k1, k3, k4, k5, k6⟩ := HEnd.out
      refine bodyPost_ret (res_one rfl _ rfl k3 k4 k5 k6) rfl ⟨_, rfl, by rw [HNo.out]; exact k1.base HB.out⟩
end Go.Proofs.YtloihkoamccacaaDoor.Df
