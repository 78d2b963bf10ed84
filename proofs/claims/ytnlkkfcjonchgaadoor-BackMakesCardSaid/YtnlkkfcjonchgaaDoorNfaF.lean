/- The walk of package nfa's Of. -/
import Derived.Test.YtnlkkfcjonchgaaDoorNfaO
import Derived.Test.YtnlkkfcjonchgaaDoorDfaW
namespace Go.Proofs.YtnlkkfcjonchgaaDoor.Nf
open Go.RowKit Go.IntWalk Go.Proofs.YtnlkkfcjonchgaaDoor.Wd Go.Proofs.YtnlkkfcjonchgaaDoor.Wo Go.Proofs.YtnlkkfcjonchgaaDoor.Df

def ofOut (d : Aut) : Nfa × Nat := if dchk d = 0 then (ofA d, 0) else (zeroN, dchk d)
theorem ofOut_ok {d : Aut} (h : dchk d = 0) : ofOut d = (ofA d, 0) := if_pos h
theorem ofOut_bad {d : Aut} (h : dchk d ≠ 0) : ofOut d = (zeroN, dchk d) := if_neg h
def mvRow (d : Aut) (q c : Nat) : List Mv := (List.range c).map fun (k : Nat) => ((q : Int), (k : Int), ((Df.step d q k : Nat) : Int))
def mvTo (d : Aut) (s : Nat) : List Mv := (List.range s).flatMap fun (q : Nat) => mvRow d q d.L.toNat
theorem mvRow_zero (d : Aut) (q : Nat) : mvRow d q 0 = [] := rfl
theorem mvRow_succ (d : Aut) (q c : Nat) : mvRow d q (c + 1) = mvRow d q c ++ [((q : Int), (c : Int), ((Df.step d q c : Nat) : Int))] := by unfold mvRow; rw [List.range_succ, List.map_append]; rfl
theorem mvTo_zero (d : Aut) : mvTo d 0 = [] := rfl
theorem mvTo_succ (d : Aut) (s : Nat) : mvTo d (s + 1) = mvTo d s ++ mvRow d s d.L.toNat := by unfold mvTo; rw [List.range_succ, List.flatMap_append]; simp
theorem mvRow_len (d : Aut) (q c : Nat) : (mvRow d q c).length = c := by simp [mvRow]
theorem mvTo_len (d : Aut) : ∀ s, (mvTo d s).length = s * d.L.toNat
  | 0 => by simp [mvTo_zero]
  | s + 1 => by rw [mvTo_succ, List.length_append, mvTo_len d s, mvRow_len, Nat.succ_mul]
def finTo (d : Aut) (s : Nat) : List Int := ((List.range s).filter (finA d)).map fun (q : Nat) => (q : Int)
theorem finTo_hit {d : Aut} {s : Nat} (h : finA d s = true) : finTo d (s + 1) = finTo d s ++ [(s : Int)] := by unfold finTo; rw [List.range_succ, List.filter_append, List.map_append]; simp [h]
theorem finTo_miss {d : Aut} {s : Nat} (h : finA d s = false) : finTo d (s + 1) = finTo d s := by unfold finTo; rw [List.range_succ, List.filter_append, List.map_append]; simp [h]
theorem finTo_len (d : Aut) (s : Nat) : (finTo d s).length ≤ s := by
  unfold finTo
  rw [List.length_map]
  exact Nat.le_trans (List.length_filter_le _ _) (by simp)
theorem ofA_to (d : Aut) : ofA d = ⟨d.L, (d.next.length : Int), [d.s], mvTo d d.next.length, finTo d d.next.length⟩ := rfl
/-- What is made midway: s states are done, of the next one's row c letters. -/
def OfI (w1 wr : World) (gm gr gs : Nat) (L : Int) (N : Nat) (z : Int) (mvv fv : Value) (ms : List Mv) (fs : List Int) : Prop :=
  Own w1 wr [eMoves mvv ms, eInts fv fs, eNfa gm [.int .i64 L, .int .i64 (N : Int), .slice (some ⟨gs, 0, none⟩) 1 1, mvv, fv], eNfa gr zero5] [eInts (.slice (some ⟨gs, 0, none⟩) 1 1) [z]]
set_option maxRecDepth 100000 in
set_option maxHeartbeats 4000000 in
theorem of_any (v : Value) (d : Aut) (w : World) (h : DfaAt w w.heap.size v d) :
    Calls Tryd.prog 35 #[v] w fun e w' => Hid (∃ x, e = .returned (.tuple #[x, errV (ofOut d).2]) ∧ NfaOwn w w' x (ofOut d).1) ∧ Below w.heap.size w w' := by
  have HV := h
  obtain ⟨L, s0, A, c, F, cf, rfl, h⟩ := h
  obtain ⟨w1, hw1, hB1, hX1, hd1⟩ := box_dfa w h
  have hs1 : w1.heap.size = w.heap.size + 1 := by rw [hw1]; simp
  have hres := below_alloc w1 (.cells #[.int .i64 0, .int .i64 0, .slice none 0 0, .slice none 0 0, .slice none 0 0] 56)
  have HB := Lib.hid hB1
  have HW := Lib.hid hw1
  have HX1 := Lib.hid hX1
  have HD1 := Lib.hid hd1
  have HBox := Lib.hid (hX1.on hres)
  have HC0 := (HV.on hB1).on hres
  have HO := Lib.hid (own_nfa_new (own_start w1) (.int .i64 0) (.int .i64 0) (.slice none 0 0) (.slice none 0 0) (.slice none 0 0))
  rw [hs1] at HO
  have HE2 : Hid (d.L = L ∧ d.s = s0) := ⟨h.eL, h.es⟩
  have hc0 := HBox.out.c0
  have hc1 := HBox.out.c1
  have hc2 := HBox.out.c2
  have hc3 := HBox.out.c3
  clear h hw1 hB1 hs1 hX1 hd1 HV hres
  rcases g1 : dchk d with _ | e0
  · have HG : Hid (Df.Good d) := dchk_iff.1 g1
    have HC := Lib.hid (dcheck_ok HC0 g1)
    have HOf := Lib.hid (ofOut_ok g1)
    have h40 := HG.out.n40
    obtain ⟨n, hn⟩ := Int.eq_ofNat_of_zero_le (show 0 ≤ L by have := HG.out.l1; have := HE2.out.1; omega)
    have HL : Hid (d.L = (n : Int) ∧ d.L.toNat = n) := ⟨by rw [HE2.out.1, hn], by rw [HE2.out.1, hn]; rfl⟩
    have hn6 : n ≤ 6 := by have := HG.out.l6; have := HL.out.1; omega
    have hn1 : 1 ≤ n := by have := HG.out.l1; have := HL.out.1; omega
    subst hn
    clear g1 HC0
    generalize hN : d.next.length = N at *
    have HN := Lib.hid hN
    clear hN
    generalize hm : d.fin.length = m at *
    have HM := Lib.hid hm
    clear hm
    go_enter Tryd.func35, Tryd.ntmps35
    go_wp2_with fail
    rw [← HW.out]
    clear HW
    refine HC.out.mono ?_
    rintro e w2 ⟨rfl, hb⟩
    have HBox := Lib.hid (HBox.out.on hb)
    have HO2 := Lib.hid (HO.out.on hb)
    clear hb HC hc0 hc1 hc2 hc3 HO
    have hc0 := HBox.out.c0
    have hc1 := HBox.out.c1
    have hc2 := HBox.out.c2
    have hltb := HBox.out.lt
    obtain ⟨gr, hgr⟩ : ∃ gr, gr = w.heap.size + 1 := ⟨_, rfl⟩
    rw [← hgr] at HO2
    rw [← hgr]
    clear hgr
    have hmade := own_nfa_new ((HO2.out.lit 3 1 1 #[.int .i64 s0] rfl (by simp [maxLen])).fin) (.int .i64 (n : Int)) (.int .i64 (N : Int)) (.slice (some ⟨w2.heap.size, 0, none⟩) 1 1) (.slice none 0 0) (.slice none 0 0)
    rw [show (w2.alloc (.cells #[.int .i64 s0] 3)).heap.size = w2.heap.size + 1 by simp] at hmade
    have HM0 : Hid (OfI w1 ((w2.alloc (.cells #[.int .i64 s0] 3)).alloc (.cells #[.int .i64 (n : Int), .int .i64 (N : Int), .slice (some ⟨w2.heap.size, 0, none⟩) 1 1, .slice none 0 0, .slice none 0 0] 56)) (w2.heap.size + 1) gr w2.heap.size (n : Int) N s0 (.slice none 0 0) (.slice none 0 0) (mvTo d 0) (finTo d 0)) :=
      (hmade.nil 3 1).nil 86 3
    clear hmade HO2
    go_wp2
    clear hc0 hc1 hc2 hltb
    generalize w2.heap.size = gs at *
    generalize gs + 1 = gm at *
    go_loopw [28] (fun i wr => ∃ (k : Nat), k ≤ N ∧ i = .int .i64 k ∧ Hid (∃ mvv fv, OfI w1 wr gm gr gs (n : Int) N s0 mvv fv (mvTo d k) (finTo d k))) (fun i _ => N - (intOf i).toNat)
    case atStart => exact ⟨0, by omega, rfl, _, _, HM0.out⟩
    case round =>
      clear HM0
      obtain ⟨k, hk, rfl, HMx⟩ := hrel
      obtain ⟨mvv, fv, hmo⟩ := HMx.out
      by_cases hlt : k < N
      · as_aux_lemma =>
        obtain ⟨r0, hr0, _, hrl, _, _⟩ := HG.out.at_ (q := k) (a := 0) (by rw [HN.out]; exact hlt) (by have := HL.out.1; omega)
        have hrln : r0.length = n := by have := HL.out.1; omega
        obtain ⟨ad, A', c', rfl, hadb, hcell, hrc, hcc, hri⟩ := HD1.out.rows k r0 hr0
        have hcw := (hmo.below.cell (p := ad.add k) (by rw [Wd.block_add]; exact hadb)).trans hcell
        rw [hrln] at hcw hrc
        have HRow := Lib.hid hri
        have HR0 := Lib.hid hr0
        have HMy : Hid (∃ mvv, OfI w1 wr gm gr gs (n : Int) N s0 mvv fv (mvTo d k ++ mvRow d k 0) (finTo d k)) := ⟨mvv, by rw [mvRow_zero, List.append_nil]; exact hmo⟩
        clear hri hr0 hrl hrln hcell hmo HMx hadb
        go_wp2
        clear hcw
        go_loopw [35] (fun i wi => ∃ (q : Nat), q ≤ n ∧ i = .int .i64 q ∧ Hid (∃ mvv, OfI w1 wi gm gr gs (n : Int) N s0 mvv fv (mvTo d k ++ mvRow d k q) (finTo d k))) (fun i _ => n - (intOf i).toNat)
        case atStart => exact ⟨0, by omega, rfl, HMy⟩
        case round =>
          clear HMy
          obtain ⟨q, hq, rfl, HMz⟩ := hrel
          obtain ⟨mvv, hmo⟩ := HMz.out
          by_cases hqn : q < n
          · as_aux_lemma =>
            obtain ⟨r1, hr1, _, _, hra, _⟩ := HG.out.at_ (q := k) (a := q) (by rw [HN.out]; exact hlt) (by have := HL.out.1; omega)
            obtain rfl := Option.some.inj (HR0.out.symm.trans hr1)
            obtain ⟨ad3, rfl, hadb3, hcell3, _⟩ := HRow.out.get hra
            have hcw := (hmo.below.cell (p := ad3.add q) (by rw [Wd.block_add]; exact hadb3)).trans hcell3
            have HNx : Hid (mvTo d k ++ mvRow d k (q + 1) = (mvTo d k ++ mvRow d k q) ++ [((k : Int), (q : Int), ((Df.step d k q : Nat) : Int))]) := by rw [Hid, mvRow_succ, List.append_assoc]
            have hlen : (mvTo d k ++ mvRow d k q).length < 1099511627776 := by
              rw [List.length_append, mvTo_len, mvRow_len, HL.out.2]
              have : k * n ≤ 40 * 6 := Nat.mul_le_mul (by omega) hn6
              omega
            have HMa := Lib.hid hmo
            obtain ⟨hg3, hg3f⟩ := ncell hmo (g := gm) (l := [.int .i64 (n : Int), .int .i64 (N : Int), .slice (some ⟨gs, 0, none⟩) 1 1, mvv, fv]) (j := 3) (by simp) rfl
            clear hr1 hra hcell3 hadb3 hmo HMz
            generalize Df.step d k q = sk at *
            generalize mvTo d k ++ mvRow d k q = ms at *
            go_wp2_with (at_builtin; refine own_move (m := ((k : Int), (q : Int), (sk : Int))) (by rfl) _ _ (by rfl) (by rfl) HMa.out (by rfl) hlen ?_)
            intro g8 cap8 w8 ho8
            obtain ⟨hk8, hf8⟩ := ncell ho8 (g := gm) (l := [.int .i64 (n : Int), .int .i64 (N : Int), .slice (some ⟨gs, 0, none⟩) 1 1, mvv, fv]) (j := 3) (by simp) rfl
            have HN1 : Hid (∃ mv', OfI w1 (w8.setCell ⟨gm, 3, none⟩ (.slice (some ⟨g8, 0, none⟩) (ms.length + 1) cap8)) gm gr gs (n : Int) N s0 mv' fv (mvTo d k ++ mvRow d k (q + 1)) (finTo d k)) := by
              refine ⟨.slice (some ⟨g8, 0, none⟩) (ms.length + 1) cap8, ?_⟩
              rw [HNx.out]
              exact (nset ho8.three 3 (.slice (some ⟨g8, 0, none⟩) (ms.length + 1) cap8)).three'
            clear ho8 HMa hg3 hg3f hcw
            go_wp2
            go_roundw
            case rel => exact ⟨q + 1, by omega, by go_num, HN1⟩
            case measure => simp [intOf]; omega
          · as_aux_lemma =>
            obtain rfl : q = n := by omega
            have HNx : Hid (mvTo d k ++ mvRow d k q = mvTo d (k + 1)) := by rw [Hid, mvTo_succ, HL.out.2]
            rw [HNx.out] at hmo
            have hfin := HG.out.fin_at (q := k) (by rw [HN.out]; exact hlt)
            obtain ⟨adf, eF, hadf, hcf, hfm⟩ := HD1.out.fins.at_ hfin
            subst eF
            rw [HM.out] at hfm
            have hcw := (hmo.below.cell (p := adf.add k) (by rw [Wd.block_add]; exact hadf)).trans hcf
            have hd3 := (HX1.out.on hmo.below).c3
            have e1 : (k : Int) < (m : Int) := by omega
            have hlf : (finTo d k).length < 17592186044416 := by have := finTo_len d k; omega
            have HMa := Lib.hid hmo
            obtain ⟨hg4, hg4f⟩ := ncell hmo (g := gm) (l := [.int .i64 (q : Int), .int .i64 (N : Int), .slice (some ⟨gs, 0, none⟩) 1 1, mvv, fv]) (j := 4) (by simp) rfl
            clear hcf hfin hadf hmo HMz HNx
            generalize hb : finA d k = b at *
            rcases b with _ | _
            · have HFt := Lib.hid (finTo_miss hb)
              have HN1 : Hid (∃ mvv fv, OfI w1 wr gm gr gs (q : Int) N s0 mvv fv (mvTo d (k + 1)) (finTo d (k + 1))) := ⟨mvv, fv, by rw [HFt.out]; exact HMa.out⟩
              clear HMa hb
              go_wp2
              go_roundw
              case rel => exact ⟨k + 1, by omega, by go_num, HN1⟩
              case measure => simp [intOf]; omega
            · have HFt := Lib.hid (finTo_hit hb)
              have HMb := Lib.hid (HMa.out.re [1, 0, 2, 3] 4 rfl (by decide))
              clear hb HMa
              generalize finTo d k = fs at *
              go_wp2_with (at_builtin; refine own_int (y := (k : Int)) (by rfl) _ _ (by rfl) (by rfl) HMb.out (by rfl) hlf ?_)
              intro g8 cap8 w8 ho8
              obtain ⟨hk8, hf8⟩ := ncell ho8 (g := gm) (l := [.int .i64 (q : Int), .int .i64 (N : Int), .slice (some ⟨gs, 0, none⟩) 1 1, mvv, fv]) (j := 4) (by simp) rfl
              have HN1 : Hid (∃ mvv fv, OfI w1 (w8.setCell ⟨gm, 4, none⟩ (.slice (some ⟨g8, 0, none⟩) (fs.length + 1) cap8)) gm gr gs (q : Int) N s0 mvv fv (mvTo d (k + 1)) (finTo d (k + 1))) := by
                refine ⟨mvv, .slice (some ⟨g8, 0, none⟩) (fs.length + 1) cap8, ?_⟩
                rw [HFt.out]
                exact ((nset ho8.three 4 (.slice (some ⟨g8, 0, none⟩) (fs.length + 1) cap8)).three').two
              clear ho8 HMb hg4 hg4f hcw hd3
              go_wp2
              go_roundw
              case rel => exact ⟨k + 1, by omega, by go_num, HN1⟩
              case measure => simp [intOf]; omega
      · as_aux_lemma =>
        obtain rfl : k = N := by omega
        obtain ⟨M8, k8, h7, _⟩ := hmo.form (e := eMoves mvv (mvTo d k)) (by simp)
        simp only [eMoves] at h7
        subst h7
        obtain ⟨F8, f8, h7, _⟩ := hmo.form (e := eInts fv (finTo d k)) (by simp)
        simp only [eInts] at h7
        subst h7
        have hG : ∀ j u, ([.int .i64 (n : Int), .int .i64 (k : Int), .slice (some ⟨gs, 0, none⟩) 1 1, .slice M8 (mvTo d k).length k8, .slice F8 (finTo d k).length f8] : List Value)[j]? = some u → wr.cell? ⟨gm, j, none⟩ = some u := fun j u hj => (ncell hmo (g := gm) (by simp) hj).1
        have hg0 := hG 0 _ rfl
        have hg1 := hG 1 _ rfl
        have hg2 := hG 2 _ rfl
        have hg3 := hG 3 _ rfl
        have hg4 := hG 4 _ rfl
        obtain ⟨hr0, hf0⟩ := ncell hmo (g := gr) (l := zero5) (j := 0) (by simp) rfl
        obtain ⟨hr1, hf1⟩ := ncell hmo (g := gr) (l := zero5) (j := 1) (by simp) rfl
        obtain ⟨hr2, hf2⟩ := ncell hmo (g := gr) (l := zero5) (j := 2) (by simp) rfl
        obtain ⟨hr3, hf3⟩ := ncell hmo (g := gr) (l := zero5) (j := 3) (by simp) rfl
        obtain ⟨hr4, hf4⟩ := ncell hmo (g := gr) (l := zero5) (j := 4) (by simp) rfl
        obtain ⟨hend, k0, k1, k2, k3, k4⟩ := into5 (hmo.pull 3 (by simp)) rfl (.int .i64 (n : Int)) (.int .i64 (k : Int)) (.slice (some ⟨gs, 0, none⟩) 1 1) (.slice M8 (mvTo d k).length k8) (.slice F8 (finTo d k).length f8) rfl
        have HEnd := Lib.hid hend
        have HK5 := Lib.hid (And.intro k0 (And.intro k1 (And.intro k2 (And.intro k3 k4))))
        have hgood := of_good HG.out
        have hOf : ofA d = ⟨(n : Int), (k : Int), [s0], mvTo d k, finTo d k⟩ := by rw [ofA_to, HL.out.1, HE2.out.2, HN.out]
        have hval : (Value.agg #[.int .i64 (ofA d).L, .int .i64 (ofA d).n, .slice (some ⟨gs, 0, none⟩) 1 1, .slice M8 (mvTo d k).length k8, .slice F8 (finTo d k).length f8]) = .agg #[.int .i64 (n : Int), .int .i64 (k : Int), .slice (some ⟨gs, 0, none⟩) 1 1, .slice M8 (mvTo d k).length k8, .slice F8 (finTo d k).length f8] := by rw [hOf]
        have hrd := own_own (a := ofA d) (sv := .slice (some ⟨gs, 0, none⟩) 1 1) (mv := .slice M8 (mvTo d k).length k8) (fv := .slice F8 (finTo d k).length f8) hend (by rw [hOf]; simp) (by rw [hOf]; simp) (by rw [hOf]; simp) (good_nL hgood).1 (good_nL hgood).2 (good_st hgood) (good_mvsmall hgood) (good_fin hgood)
        rw [hval] at hrd
        have HRd := Lib.hid hrd
        clear hG hmo HMx hend k0 k1 k2 k3 k4 hgood hOf hrd hval
        generalize (mvTo d k).length = mm at *
        generalize (finTo d k).length = ff at *
        go_wp2
        obtain ⟨k0, k1, k2, k3, k4⟩ := HK5.out
        refine bodyPost_ret (results_nfa rfl _ rfl k0 k1 k2 k3 k4) rfl ⟨⟨_, by rw [HOf.out]; rfl, by rw [HOf.out]; exact HRd.out.base HB.out⟩, HB.out.trans (HEnd.out.below.mono HB.out.size)⟩
  · have HNo := Lib.hid (ofOut_bad (d := d) (by omega))
    have HC := Lib.hid (dcheck_bad HC0 g1 rfl)
    rw [g1] at HNo
    clear g1 HBox HX1 HD1 HE2 HC0
    generalize d.next.length = N at *
    generalize d.fin.length = m at *
    generalize hE : ((e0 + 1 : Nat) : Int) = E at *
    have HE := Lib.hid hE
    clear hE
    go_enter Tryd.func35, Tryd.ntmps35
    go_wp2_with fail
    rw [← HW.out]
    clear HW
    refine HC.out.mono ?_
    rintro e w2 ⟨rfl, hb⟩
    have HO2 := Lib.hid (HO.out.on hb)
    obtain ⟨hr0, hf0⟩ := ncell HO2.out (g := w.heap.size + 1) (l := zero5) (j := 0) (by simp) rfl
    obtain ⟨hr1, hf1⟩ := ncell HO2.out (g := w.heap.size + 1) (l := zero5) (j := 1) (by simp) rfl
    obtain ⟨hr2, hf2⟩ := ncell HO2.out (g := w.heap.size + 1) (l := zero5) (j := 2) (by simp) rfl
    obtain ⟨hr3, hf3⟩ := ncell HO2.out (g := w.heap.size + 1) (l := zero5) (j := 3) (by simp) rfl
    obtain ⟨hr4, hf4⟩ := ncell HO2.out (g := w.heap.size + 1) (l := zero5) (j := 4) (by simp) rfl
    obtain ⟨hend, k0, k1, k2, k3, k4⟩ := into5 HO2.out rfl (.int .i64 0) (.int .i64 0) (.slice none 0 0) (.slice none 0 0) (.slice none 0 0) rfl
    have HEnd := Lib.hid (HB.out.trans (hend.below.mono HB.out.size))
    have HK5 := Lib.hid (And.intro k0 (And.intro k1 (And.intro k2 (And.intro k3 k4))))
    clear hb HC hc0 hc1 hc2 hc3 hend k0 k1 k2 k3 k4
    go_wp2
    obtain ⟨k0, k1, k2, k3, k4⟩ := HK5.out
    refine bodyPost_ret (results_nfa rfl _ rfl k0 k1 k2 k3 k4) rfl ⟨⟨_, by rw [HNo.out, errV_succ, HE.out]; rfl, by rw [HNo.out]; exact nfaOwn_zero HEnd.out⟩, HEnd.out⟩
end Go.Proofs.YtnlkkfcjonchgaaDoor.Nf
