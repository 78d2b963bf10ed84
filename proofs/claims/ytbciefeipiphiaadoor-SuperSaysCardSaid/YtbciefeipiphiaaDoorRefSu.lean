/- The walk of stilewardref3's Super. -/
import Derived.Test.YtbciefeipiphiaaDoorRefWi
import Derived.Test.YtbciefeipiphiaaDoorBigW
namespace Go.Proofs.YtbciefeipiphiaaDoor.Su
open Go.RowKit Go.IntWalk Go.Proofs.YtbciefeipiphiaaDoor.Wd Go.Proofs.YtbciefeipiphiaaDoor.Wo Go.Proofs.YtbciefeipiphiaaDoor.Df Go.Proofs.YtbciefeipiphiaaDoor.Rc Go.Proofs.YtbciefeipiphiaaDoor.Sm

/-- What comes of two automata: what is wrong, nothing at all (5), or the smallest automaton of what is kept. -/
def SupIs (P D : Aut) (free : Int) (r : Aut) (E : Nat) : Prop :=
  ((prodOut (kindF 0) P D).2 ≠ 0 ∧ E = (prodOut (kindF 0) P D).2 ∧ r = zeroA) ∨
  ((prodOut (kindF 0) P D).2 = 0 ∧ E = 5 ∧ r = zeroA ∧ ∀ w, Word P.L w → ¬ sup P D free w) ∨
  ((prodOut (kindF 0) P D).2 = 0 ∧ E = 0 ∧ (∃ w, Word P.L w ∧ sup P D free w) ∧ ∃ d, Df.Good d ∧ d.L = P.L ∧ IsSup P D d free ∧ r = minA d)
theorem prod_zero {f : Bool → Bool → Bool} {a b : Aut} (h : (prodOut f a b).2 = 0) : Good2 a b ∧ ∃ l, found (S2 a b) (start2 a b) = some l := by
  by_cases h1 : chkD2 a b = 0
  · refine ⟨chkD2_iff.1 h1, ?_⟩
    rcases hf : found (S2 a b) (start2 a b) with _ | l
    · rw [prodOut_full h1 hf] at h; cases h
    · exact ⟨l, rfl⟩
  · rw [prodOut_bad h1] at h
    exact absurd h h1
theorem dfa_laid {w1 w5 w6 : World} {gr : Nat} {L s : Int} {nv fv : Value} {d : Aut} (ho : Own w1 w5 [eDfa gr zero4] []) (hx : DfaOwn w5 w6 (.agg #[.int .i64 L, .int .i64 s, nv, fv]) d) :
    DfaOwn w1 ((((w6.setCell ⟨gr, 0, none⟩ (.int .i64 L)).setCell ⟨gr, 1, none⟩ (.int .i64 s)).setCell ⟨gr, 2, none⟩ nv).setCell ⟨gr, 3, none⟩ fv) (.agg #[.int .i64 L, .int .i64 s, nv, fv]) d ∧
      ((((w6.setCell ⟨gr, 0, none⟩ (.int .i64 L)).setCell ⟨gr, 1, none⟩ (.int .i64 s)).setCell ⟨gr, 2, none⟩ nv).setCell ⟨gr, 3, none⟩ fv).cell? ⟨gr, 0, none⟩ = some (.int .i64 L) ∧
      ((((w6.setCell ⟨gr, 0, none⟩ (.int .i64 L)).setCell ⟨gr, 1, none⟩ (.int .i64 s)).setCell ⟨gr, 2, none⟩ nv).setCell ⟨gr, 3, none⟩ fv).cell? ⟨gr, 1, none⟩ = some (.int .i64 s) ∧
      ((((w6.setCell ⟨gr, 0, none⟩ (.int .i64 L)).setCell ⟨gr, 1, none⟩ (.int .i64 s)).setCell ⟨gr, 2, none⟩ nv).setCell ⟨gr, 3, none⟩ fv).cell? ⟨gr, 2, none⟩ = some nv ∧
      ((((w6.setCell ⟨gr, 0, none⟩ (.int .i64 L)).setCell ⟨gr, 1, none⟩ (.int .i64 s)).setCell ⟨gr, 2, none⟩ nv).setCell ⟨gr, 3, none⟩ fv).cell? ⟨gr, 3, none⟩ = some fv := by
  obtain ⟨nv', fv', rs, e, h2, h3, h4, h5, h6⟩ := hx
  have h := ho.join h3
  have h7 := (((h.dset 0 (.int .i64 L)).dset 1 (.int .i64 s)).dset 2 nv).dset 3 fv
  exact ⟨⟨nv', fv', rs, e, h2, h7.only.weak (fun e he => List.mem_append_left _ he), h4, h5, h6⟩,
    (h7.dcell (g := gr) (l := [.int .i64 L, .int .i64 s, nv, fv]) (by simp) rfl).1, (h7.dcell (g := gr) (l := [.int .i64 L, .int .i64 s, nv, fv]) (by simp) rfl).1, (h7.dcell (g := gr) (l := [.int .i64 L, .int .i64 s, nv, fv]) (by simp) rfl).1, (h7.dcell (g := gr) (l := [.int .i64 L, .int .i64 s, nv, fv]) (by simp) rfl).1⟩
theorem rowsM_congr {M N : Nat} {rs : List Br} {X Y : PS} (hl : rs.length = M) (h : RowsM N rs X) (he : ∀ p q, p < M → q < N → X p q = Y p q) : RowsM N rs Y := fun i r hi => by
  rw [h i r hi]
  have := (List.getElem?_eq_some_iff.1 hi).1
  exact bF_congr fun q hq => he i q (by omega) hq
/-- What comes of the last table. -/
theorem sup_made {P D : Aut} {free : Int} (h0 : (prodOut (kindF 0) P D).2 = 0) {X : PS} (hR : Rounds P D free X) (hX : Round P D free X X) {K l : List Pr} (hK : Wi P D X K) (hf : found (S2 P D) (start2 P D) = some l) (hs : inX X (start2 P D) = true) :
    GoodB (wA P D X K) ∧ found (S1 (quo (wA P D X K))) (quo (wA P D X K)).s.toNat ≠ none ∧ SupIs P D free (minA (wA P D X K)) 0 := by
  obtain ⟨g, _⟩ := prod_zero h0
  obtain ⟨h1, h2, d, h3, h4, h5, h6⟩ := within_min g hK hf
  refine ⟨h1, h2, .inr (.inr ⟨h0, rfl, ?_, d, h3, h4, fun w hw => ?_, h6⟩)⟩
  · rcases Classical.em (∃ w, Word P.L w ∧ sup P D free w) with h | h
    · exact h
    · have := (rounds_none g hR hX).2 fun w hw hs => h ⟨w, hw, hs⟩
      have hs : X P.s.toNat D.s.toNat = true := hs
      rw [hs] at this; cases this
  · rw [h5 w hw, wA_acc hK hw]
    exact (rounds_end g hR hX hw).symm

set_option linter.unusedSimpArgs false in
set_option maxRecDepth 100000 in
set_option maxHeartbeats 16000000 in
theorem rsuper_any (v z : Value) (P D : Aut) (free : Int) (w : World) (ha : DfaAt w w.heap.size v P) (hb : DfaAt w w.heap.size z D) (hf : 0 ≤ free) (hf2 : free ≤ 9223372036854775807) :
    Calls Tryd.prog 8 #[v, z, .int .i64 free] w fun e w' => Hid (∃ x r, ∃ E : Nat, e = .returned (.tuple #[x, .int .i64 ((E : Nat) : Int)]) ∧ SupIs P D free r E ∧ DfaOwn w w' x r) := by
  have HA := Lib.hid ha
  have HZ := Lib.hid hb
  obtain ⟨L, s, A, c, F, cf, rfl, ha⟩ := ha
  obtain ⟨L', t, C, d, G, cg, rfl, hb⟩ := hb
  obtain ⟨wx, hwx, hBx, hX, hd1⟩ := box_dfa w ha
  obtain ⟨w1, hw1, hB1, hY, hd2⟩ := box_dfa wx (hb.on hBx)
  have hs1 : wx.heap.size = w.heap.size + 1 := by rw [hwx]; simp
  have hs2 : w1.heap.size = w.heap.size + 1 + 1 := by rw [hw1]; simp; omega
  rw [hs1] at hY
  have hbb := hBx.trans (hB1.mono hBx.size)
  have hres := below_alloc w1 (.cells #[.int .i64 0, .int .i64 0, .slice none 0 0, .slice none 0 0] 25)
  have HB := Lib.hid hbb
  have HX := Lib.hid (hX.on hB1)
  have HY := Lib.hid hY
  have HX2 := Lib.hid (HX.out.on hres)
  have HY2 := Lib.hid (HY.out.on hres)
  have HA := Lib.hid ((HA.out.on hbb).on hres)
  have HZ := Lib.hid ((HZ.out.on hbb).on hres)
  have HW : Hid (w1 = (w.alloc (.cells #[.int .i64 L, .int .i64 s, .slice A P.next.length c, .slice F P.fin.length cf] 25)).alloc (.cells #[.int .i64 L', .int .i64 t, .slice C D.next.length d, .slice G D.fin.length cg] 25)) := by
    rw [← hwx]; exact hw1
  have HO := Lib.hid ((own_start w1).dfa (.int .i64 0) (.int .i64 0) (.slice none 0 0) (.slice none 0 0))
  rw [hs2] at HO
  have HPr := Lib.hid (rpair_any 0 (.inl rfl) _ _ P D _ HA.out HZ.out)
  have HFr := Lib.hid (And.intro hf hf2)
  have HPs : Hid (P.s = s) := ha.es
  have HDs : Hid (D.s = t) := hb.es
  clear hwx hw1 hBx hB1 hbb hX hY hd1 hd2 hs1 hs2 ha hb hres hf hf2
  generalize P.fin.length = fa at *
  generalize D.fin.length = fb at *
  generalize hM : P.next.length = M at *
  generalize hN : D.next.length = N at *
  have HM := Lib.hid hM
  have HN := Lib.hid hN
  clear hM hN
  have hc0 := HX2.out.c0
  have hc1 := HX2.out.c1
  have hc2 := HX2.out.c2
  have hc3 := HX2.out.c3
  have hd0 := HY2.out.c0
  have hd1' := HY2.out.c1
  have hd2' := HY2.out.c2
  have hd3 := HY2.out.c3
  go_enter Tryd.func8, Tryd.ntmps8
  go_wp2_with fail
  rw [← HW.out]
  clear HW
  refine HPr.out.mono ?_
  rintro e w2 he
  obtain ⟨x0, rfl, ho0⟩ := he.out
  have hB2 : Below (w1.alloc (.cells #[.int .i64 0, .int .i64 0, .slice none 0 0, .slice none 0 0] 25)).heap.size (w1.alloc (.cells #[.int .i64 0, .int .i64 0, .slice none 0 0, .slice none 0 0] 25)) w2 := by
    obtain ⟨_, _, _, _, _, hown0, _⟩ := ho0
    exact hown0.below
  obtain ⟨L0, s0, A0, c0, F0, cf0, rfl, _⟩ := ho0.at_
  generalize (prodOut (kindF 0) P D).1.next.length = n0 at *
  generalize (prodOut (kindF 0) P D).1.fin.length = m0 at *
  clear ho0 he HPr hc0 hc1 hc2 hc3 hd0 hd1' hd2' hd3
  obtain ⟨w3, hw3⟩ : ∃ w3, w3 = w2.alloc (.cells #[.int .i64 L0, .int .i64 s0, .slice A0 n0 c0, .slice F0 m0 cf0] 25) := ⟨_, rfl⟩
  have hB3 : Below w2.heap.size w2 w3 := by rw [hw3]; exact below_alloc _ _
  have hB4 := hB2.trans (hB3.mono hB2.size)
  have HW3 := Lib.hid hw3
  have HX := Lib.hid (HX2.out.on hB4)
  have HY := Lib.hid (HY2.out.on hB4)
  have HA := Lib.hid (HA.out.on hB4)
  have HZ := Lib.hid (HZ.out.on hB4)
  have HO := Lib.hid (HO.out.on hB4)
  have HB0 := HB
  have HB := Lib.hid (HB.out.trans (HO.out.below.mono HB.out.size))
  clear hw3 hB3 hB2 hB4 HX2 HY2
  rcases hE : (prodOut (kindF 0) P D).2 with _ | e0
  · obtain ⟨hg, l0, hf⟩ := prod_zero hE
    have HG := Lib.hid hg
    have HF0 := Lib.hid hf
    have HE := Lib.hid hE
    have hM40 := hg.ga.n40
    have hN40 := hg.gb.n40
    have hN01 := hg.gb.n1
    have hst1 := hg.ga.st
    have hst2 := hg.gb.st
    unfold isSt at hst1 hst2
    rw [HM.out] at hM40 hst1
    rw [HN.out] at hN40 hN01 hst2
    rw [HPs.out] at hst1
    rw [HDs.out] at hst2
    obtain ⟨p0, hp0⟩ := Int.eq_ofNat_of_zero_le hst1.1
    obtain ⟨q0, hq0⟩ := Int.eq_ofNat_of_zero_le hst2.1
    subst hp0 hq0
    have HS0 : Hid (start2 P D = (p0, q0)) := by
      have h1 := HPs.out
      have h2 := HDs.out
      unfold start2 Hid; rw [h1, h2]; rfl
    have hp0M : p0 < M := by omega
    have hq0N : q0 < N := by omega
    clear hg hf hE hst1 hst2 HPs HDs
    have HS : Hid (GT w3 w3 0 N (.slice none 0 0) (fun _ _ => true)) := ⟨[], ⟨(own_start w3).nil 23 1, fun r hr => by simp at hr⟩, rfl, fun j r hj => by simp at hj⟩
    go_wp2
    rw [← HW3.out]
    clear HW3
    go_loopw [10, 11] (fun tv i wr => ∃ (k : Nat), k ≤ M ∧ i = .int .i64 k ∧ Hid (GT w3 wr k N tv (fun _ _ => true))) (fun _ i _ => M - (intOf i).toNat)
    case atStart => exact ⟨0, by omega, rfl, HS⟩
    case round =>
      clear HS
      obtain ⟨k, hk, rfl, HS⟩ := hrel
      have hbw := HS.out.below
      have hc2 := (HX.out.on hbw).c2
      by_cases hkM : k < M
      · as_aux_lemma =>
          have hd2 := (HY.out.on hbw).c2
          obtain ⟨rs, hown, hlen, hrows⟩ := HS.out
          have HLen := Lib.hid hlen
          have HRows := Lib.hid hrows
          have HRL := Lib.hid hown.2
          have HOw := Lib.hid hown
          have hlen1 : (rs.map (brV N)).length < 1099511627776 := by rw [List.length_map]; omega
          clear HS hown hlen hrows hbw
          go_wp2_with (at_make; refine mk_bools rfl _ _ rfl N rfl rfl (by omega) ?_)
          intro w4 ho4
          have HR0 : Hid (Own w3 w4 (eBools (rowV wr.heap.size N) (bF N (rowL (fun _ _ => true) k 0)) :: eBRows u10 (rs.map (brV N)) :: eEachB N rs) []) := by
            rw [rowL_start]; exact HOw.out.1.join ho4
          clear ho4 HOw hd2 hc2
          generalize wr.heap.size = gw at *
          go_wp2
          go_loopw [13] (fun i wi => ∃ (q : Nat), q ≤ N ∧ i = .int .i64 q ∧ Hid (Own w3 wi (eBools (rowV gw N) (bF N (rowL (fun _ _ => true) k q)) :: eBRows u10 (rs.map (brV N)) :: eEachB N rs) [])) (fun i _ => N - (intOf i).toNat)
          case atStart => exact ⟨0, by omega, rfl, HR0⟩
          case round =>
            clear HR0
            obtain ⟨q, hq, rfl, HR⟩ := hrel
            by_cases hqN : q < N
            · obtain ⟨k1, k2⟩ := own_bools_cell (g := gw) (n := N) (cap := N) (l := bF N (rowL (fun _ _ => true) k q)) HR.out (List.mem_append_left _ List.mem_cons_self) (bF_length _ _) (bF_get _ hqN)
              have HR1 : Hid (Own w3 (wr.setCell ⟨gw, q, none⟩ (.bool true)) (eBools (rowV gw N) (bF N (rowL (fun _ _ => true) k (q + 1))) :: eBRows u10 (rs.map (brV N)) :: eEachB N rs) []) := by
                have h1 := own_bools_set HR.out (bF_length _ _) q true
                rw [rowL_next (fun _ _ => true) k N q rfl] at h1
                exact h1
              have e3 : (q : Int) < (N : Int) := by omega
              clear HR
              generalize rowL (fun _ _ => true) k q q = old at *
              go_wp2
              go_roundw
              case rel => exact ⟨q + 1, by omega, by go_num, HR1⟩
              case measure => simp [intOf]; omega
            · obtain rfl : q = N := by omega
              have HO2 : Hid (Own w3 wr (eBRows u10 (rs.map (brV q)) :: eBools (rowV gw q) (bF q ((fun _ _ => true : PS) k)) :: eEachB q rs) []) := by
                have h1 := HR.out.two
                rw [rowL_full (fun _ _ => true) k q] at h1
                exact h1
              clear HR
              go_wp2_with (at_builtin; refine own_brow (by rfl) _ _ (by rfl) (by rfl) HO2.out (by rfl) (by rfl) hlen1 ?_)
              intro g8 cap8 w8 ho8
              have HE8 : Hid (GT w3 w8 (k + 1) q (.slice (some ⟨g8, 0, none⟩) (rs.length + 1) cap8) (fun _ _ => true)) :=
                ⟨rs ++ [(gw, bF q ((fun _ _ => true : PS) k))], ownM_snoc (bF_length _ _) HRL.out ho8, by rw [List.length_append, HLen.out]; rfl, rowsM_snoc HRows.out gw HLen.out⟩
              clear ho8 HO2
              go_wp2
              go_roundw
              case rel => exact ⟨k + 1, by omega, by go_num, HE8⟩
              case measure => simp [intOf]; omega
      · obtain rfl : k = M := by omega
        obtain ⟨At, ct, htv, HT1⟩ : ∃ At ct, u10 = .slice At k ct ∧ Hid (∃ rs, TabAt wr At N rs ∧ rs.length = k ∧ RowsM N rs (fun _ _ => true)) := by
          obtain ⟨rs, hown, hlen, hrows⟩ := HS.out
          obtain ⟨At, ct, htv⟩ := ownT_form (ownM_T hown)
          rw [hlen] at htv
          subst htv
          exact ⟨At, ct, rfl, rs, ownT_tab (by omega) (by rw [hlen]; exact ownM_T hown), hlen, hrows⟩
        subst htv
        have HRn0 : Hid (Rounds P D free (fun _ _ => true)) := .all fun _ _ _ _ => rfl
        have HBw : Hid (Below w3.heap.size w3 wr) := hbw
        clear HS hbw
        go_wp2
        go_loopw [10, 14] (fun sv gv wr => ∃ (gb : Bool) (A2 : Option Addr) (c2 : Nat) (rs : List Br) (X : PS), sv = .slice A2 k c2 ∧ gv = .bool gb ∧ Hid (TabAt wr A2 N rs ∧ rs.length = k ∧ RowsM N rs X) ∧ Hid (Rounds P D free X ∧ (gb = false → Round P D free X X)) ∧ Hid (Below w3.heap.size w3 wr)) (fun sv gv wr => 2 * cntY k N (memB wr sv) + (if bOf gv = true then 1 else 0))
        case atStart =>
          obtain ⟨rs, h⟩ := HT1.out
          exact ⟨true, At, ct, rs, _, rfl, rfl, h, ⟨HRn0.out, fun e => by cases e⟩, HBw⟩
        case round =>
          clear HT1 HRn0 HBw hc2
          obtain ⟨gb, A2, c2, rs, X, rfl, rfl, HT, HRd, HBw⟩ := hrel
          have hc0 := (HX.out.on HBw.out).c0
          have hc1 := (HX.out.on HBw.out).c1
          have hc2 := (HX.out.on HBw.out).c2
          have hc3 := (HX.out.on HBw.out).c3
          have hd0 := (HY.out.on HBw.out).c0
          have hd1 := (HY.out.on HBw.out).c1
          have hd2 := (HY.out.on HBw.out).c2
          have hd3 := (HY.out.on HBw.out).c3
          rcases gb with _ | _
          · have HSt : Hid (inX X (start2 P D) = X p0 q0) := by unfold Hid; rw [HS0.out]; rfl
            obtain ⟨adT, gT, eT, hT1, hT2⟩ := tab_at HT.out.1 HT.out.2.2 (p := p0) (q := q0) (by rw [HT.out.2.1]; exact hp0M) hq0N
            subst eT
            have i1 : (p0 : Int) < (k : Int) := by omega
            have i2 : (q0 : Int) < (N : Int) := by omega
            have HRX := Lib.hid (HRd.out.2 rfl)
            have HRd1 := Lib.hid HRd.out.1
            clear HRd
            generalize X p0 q0 = xb at *
            rcases xb with _ | _
            · as_aux_lemma =>
                have HNo : Hid (SupIs P D free zeroA 5) := .inr (.inl ⟨HE.out, rfl, rfl, (rounds_none HG.out HRd1.out HRX.out).1 HSt.out⟩)
                go_wp2
                go_region
                have hbq : Below wr.heap.size wr wr.drew := (Below.refl _ _).drew
                have HOd := Lib.hid (HO.out.on (HBw.out.trans (hbq.mono HBw.out.size)))
                clear hbq hc0 hc1 hc2 hc3 hd0 hd1 hd2 hd3 hT1 hT2
                generalize wr.drew = wq at *
                obtain ⟨hr0, hf0⟩ := HOd.out.dcell (g := w.heap.size + 1 + 1) (l := zero4) (j := 0) (by simp) rfl
                obtain ⟨hr1, hf1⟩ := HOd.out.dcell (g := w.heap.size + 1 + 1) (l := zero4) (j := 1) (by simp) rfl
                obtain ⟨hr2, hf2⟩ := HOd.out.dcell (g := w.heap.size + 1 + 1) (l := zero4) (j := 2) (by simp) rfl
                obtain ⟨hr3, hf3⟩ := HOd.out.dcell (g := w.heap.size + 1 + 1) (l := zero4) (j := 3) (by simp) rfl
                have HEnd := Lib.hid (res_bad HOd.out rfl)
                go_wp2
                obtain ⟨k2, k3, k4, k5, k6⟩ := HEnd.out
                refine bodyPost_ret (results_dfa rfl _ rfl k3 k4 k5 k6) rfl ⟨_, zeroA, 5, rfl, HNo.out, dfaOwn_zero (HB0.out.trans (k2.mono HB0.out.size))⟩
            · as_aux_lemma =>
                have HWi := Lib.hid (fun W (hW : Below wr.heap.size wr W) => rwithin_any _ _ P D W ((HA.out.on HBw.out).on hW) ((HZ.out.on HBw.out).on hW) HG.out HF0.out (Ax := some adT) (cx := c2) (rx := rs) (X := X) (by rw [HN.out]; exact HT.out.1.on hW) (by rw [HM.out]; exact HT.out.2.1) (by rw [HN.out]; exact HT.out.2.2) HSt.out)
                rw [HM.out] at HWi
                go_wp2
                go_region
                have hbq : Below wr.heap.size wr wr.drew := (Below.refl _ _).drew
                have hbw9 := HBw.out.trans (hbq.mono HBw.out.size)
                have HOd := Lib.hid (HO.out.on hbw9)
                have HCa := Lib.hid (HWi.out _ hbq)
                have HX9 := Lib.hid (HX.out.on hbw9)
                have HY9 := Lib.hid (HY.out.on hbw9)
                clear hbq hbw9 hc0 hc1 hc2 hc3 hd0 hd1 hd2 hd3 hT1 hT2 HWi
                generalize wr.drew = wq at *
                have hc0 := HX9.out.c0
                have hc1 := HX9.out.c1
                have hc2 := HX9.out.c2
                have hc3 := HX9.out.c3
                have hd0 := HY9.out.c0
                have hd1 := HY9.out.c1
                have hd2 := HY9.out.c2
                have hd3 := HY9.out.c3
                go_wp2_with fail
                refine HCa.out.mono ?_
                rintro e w5 he
                obtain ⟨x5, K, rfl, hK, ho5⟩ := he.out
                obtain ⟨m1, m2, m3⟩ := sup_made HE.out HRd1.out HRX.out hK HF0.out HSt.out
                have HMn := Lib.hid (rmin_anyB x5 (wA P D X K) w5 ho5.at_ m1 m2)
                have HSup := Lib.hid m3
                have HO5 : Hid (Own w1 w5 [eDfa (w.heap.size + 1 + 1) zero4] []) := by
                  obtain ⟨_, _, _, _, _, h, _⟩ := ho5
                  exact HOd.out.on h.below
                clear he hK ho5 m1 m2 m3 HCa hc0 hc1 hc2 hc3 hd0 hd1 hd2 hd3 HX9 HY9
                go_wp2_with fail
                refine HMn.out.mono ?_
                rintro e w6 he
                obtain ⟨x6, rfl, ho6⟩ := he.out
                have HO6 : Hid (Own w1 w6 [eDfa (w.heap.size + 1 + 1) zero4] []) := by
                  obtain ⟨_, _, _, _, _, h, _⟩ := ho6
                  exact HO5.out.on h.below
                obtain ⟨L6, s6, A6, c6, F6, cf6, rfl, _⟩ := ho6.at_
                have HEnd := Lib.hid (dfa_laid HO5.out ho6)
                clear ho6 he HMn
                generalize (minA (wA P D X K)).next.length = n6 at *
                generalize (minA (wA P D X K)).fin.length = m6 at *
                obtain ⟨hr0, hf0⟩ := HO6.out.dcell (g := w.heap.size + 1 + 1) (l := zero4) (j := 0) (by simp) rfl
                obtain ⟨hr1, hf1⟩ := HO6.out.dcell (g := w.heap.size + 1 + 1) (l := zero4) (j := 1) (by simp) rfl
                obtain ⟨hr2, hf2⟩ := HO6.out.dcell (g := w.heap.size + 1 + 1) (l := zero4) (j := 2) (by simp) rfl
                obtain ⟨hr3, hf3⟩ := HO6.out.dcell (g := w.heap.size + 1 + 1) (l := zero4) (j := 3) (by simp) rfl
                go_wp2
                obtain ⟨k1, k3, k4, k5, k6⟩ := HEnd.out
                refine bodyPost_ret (results_dfa rfl _ rfl k3 k4 k5 k6) rfl ⟨_, minA (wA P D X K), 0, rfl, HSup.out, k1.base HB0.out⟩
          · as_aux_lemma =>
              have hG := rgood_any _ _ P D free wr (HA.out.on HBw.out) (HZ.out.on HBw.out) HG.out HFr.out.1 HFr.out.2 (Ax := A2) (cx := c2) (rx := rs) (X := X) (by rw [HN.out]; exact HT.out.1) (by rw [HM.out]; exact HT.out.2.1) (by rw [HN.out]; exact HT.out.2.2)
              rw [HM.out, HN.out] at hG
              have HGd := Lib.hid hG
              obtain ⟨C0, hC0⟩ : ∃ C0, C0 = cntY k N (memB wr (.slice A2 k c2)) := ⟨_, rfl⟩
              have HC0 := Lib.hid hC0
              have HMe : Hid (C0 = cntY k N X) := by
                unfold Hid
                rw [hC0]
                exact cntY_congr fun p q hp hq => memB_tab HT.out.1 HT.out.2.2 (by rw [HT.out.2.1]; exact hp) hq
              clear hC0 hG
              go_wp2_with fail
              refine HGd.out.mono ?_
              rintro e wb he
              obtain ⟨A3, c3, rs3, Z, rfl, hl3, hr3, ht3, hrd, hbb⟩ := he.out
              have HT3 : Hid (TabAt wb A3 N rs3 ∧ rs3.length = k ∧ RowsM N rs3 Z) := ⟨ht3, hl3, hr3⟩
              have HT2 : Hid (TabAt wb A2 N rs ∧ rs.length = k ∧ RowsM N rs X) := ⟨HT.out.1.on hbb, HT.out.2⟩
              have HRz := Lib.hid hrd
              have HBb := Lib.hid (HBw.out.trans (hbb.mono HBw.out.size))
              clear HGd he hl3 hr3 ht3 hrd hbb hc0 hc1 hc2 hc3 hd0 hd1 hd2 hd3 HT HBw
              have HD0 : Hid (false = true ↔ ∃ p' q', p' < 0 ∧ q' < N ∧ X p' q' ≠ Z p' q') := ⟨fun e => (by cases e), fun ⟨_, _, h, _⟩ => absurd h (by omega)⟩
              have HBe : Hid (Below wb.heap.size wb wb) := Below.refl _ _
              go_wp2
              go_loopw [14, 16] (fun gv i wr' => ∃ (b : Bool) (p : Nat), p ≤ k ∧ gv = .bool b ∧ i = .int .i64 p ∧ Hid (b = true ↔ ∃ p' q', p' < p ∧ q' < N ∧ X p' q' ≠ Z p' q') ∧ Hid (Below wb.heap.size wb wr')) (fun _ i _ => k - (intOf i).toNat)
              case atStart => exact ⟨false, 0, by omega, rfl, rfl, HD0, HBe⟩
              case round =>
                clear HD0 HBe
                obtain ⟨b, p, hp, rfl, rfl, HD, HBe⟩ := hrel
                by_cases hpk : p < k
                · as_aux_lemma =>
                    obtain ⟨ad2, g2, e2, hx1, _⟩ := tab_at (HT2.out.1.on HBe.out) HT2.out.2.2 (p := p) (q := 0) (by rw [HT2.out.2.1]; exact hpk) (by omega)
                    subst e2
                    have HD1 : Hid (b = true ↔ (∃ p' q', p' < p ∧ q' < N ∧ X p' q' ≠ Z p' q') ∨ ∃ q', q' < 0 ∧ X p q' ≠ Z p q') := ⟨fun e => .inl (HD.out.1 e), fun e => by
                      rcases e with e | ⟨_, h, _⟩
                      · exact HD.out.2 e
                      · exact absurd h (by omega)⟩
                    have e1 : (p : Int) < (k : Int) := by omega
                    go_wp2
                    clear hx1
                    go_loopw [14, 17] (fun gv i wr' => ∃ (b : Bool) (q : Nat), q ≤ N ∧ gv = .bool b ∧ i = .int .i64 q ∧ Hid (b = true ↔ (∃ p' q', p' < p ∧ q' < N ∧ X p' q' ≠ Z p' q') ∨ ∃ q', q' < q ∧ X p q' ≠ Z p q') ∧ Hid (Below wb.heap.size wb wr')) (fun _ i _ => N - (intOf i).toNat)
                    case atStart => exact ⟨b, 0, by omega, rfl, rfl, HD1, HBe⟩
                    case round =>
                      clear HD1 HBe
                      obtain ⟨b5, q, hq, rfl, rfl, HD5, HBe⟩ := hrel
                      by_cases hqN : q < N
                      · as_aux_lemma =>
                          obtain ⟨ad5, g5, e5, hx1, hx2⟩ := tab_at (HT2.out.1.on HBe.out) HT2.out.2.2 (p := p) (q := q) (by rw [HT2.out.2.1]; exact hpk) hqN
                          obtain rfl := Option.some.inj e5
                          obtain ⟨ad6, g6, e6, hy1, hy2⟩ := tab_at (HT3.out.1.on HBe.out) HT3.out.2.2 (p := p) (q := q) (by rw [HT3.out.2.1]; exact hpk) hqN
                          subst e6
                          have i2 : (q : Int) < (N : Int) := by omega
                          have HBd : Hid (∀ m, Below wb.heap.size wb (wr.drewN m)) := fun m => below_drewN HBe.out m
                          have HD6 : Hid (∀ b6 : Bool, (b6 = true ↔ b5 = true ∨ X p q ≠ Z p q) → (b6 = true ↔ (∃ p' q', p' < p ∧ q' < N ∧ X p' q' ≠ Z p' q') ∨ ∃ q', q' < q + 1 ∧ X p q' ≠ Z p q')) := fun b6 h6 => by
                            rw [h6, HD5.out]
                            constructor
                            · rintro ((h | ⟨q', h1, h2⟩) | h)
                              · exact .inl h
                              · exact .inr ⟨q', by omega, h2⟩
                              · exact .inr ⟨q, by omega, h⟩
                            · rintro (h | ⟨q', h1, h2⟩)
                              · exact .inl (.inl h)
                              · by_cases e : q' = q
                                · subst e; exact .inr h2
                                · exact .inl (.inr ⟨q', by omega, h2⟩)
                          clear HD5 HBe e5
                          generalize X p q = xb at *
                          generalize Z p q = zb at *
                          rcases b5 with _ | _
                          · rcases xb with _ | _ <;> rcases zb with _ | _
                            all_goals
                              as_aux_lemma =>
                                go_wp2_with fail
                                go_quiet (fail)
                                go_wp2
                                go_roundw
                                case rel => exact ⟨_, q + 1, by omega, rfl, by go_num, Lib.hid (HD6.out _ (by simp)), HBd.out _⟩
                                case measure => simp [intOf]; omega
                          · as_aux_lemma =>
                              go_wp2_with fail
                              go_quiet (fail)
                              go_wp2
                              go_roundw
                              case rel => exact ⟨true, q + 1, by omega, rfl, by go_num, Lib.hid (HD6.out _ (by simp)), HBd.out _⟩
                              case measure => simp [intOf]; omega
                      · as_aux_lemma =>
                          obtain rfl : q = N := by omega
                          have HD7 : Hid (b5 = true ↔ ∃ p' q', p' < p + 1 ∧ q' < q ∧ X p' q' ≠ Z p' q') := by
                            unfold Hid
                            rw [HD5.out]
                            constructor
                            · rintro (⟨p', q', h1, h2, h3⟩ | ⟨q', h1, h2⟩)
                              · exact ⟨p', q', by omega, h2, h3⟩
                              · exact ⟨p, q', by omega, h1, h2⟩
                            · rintro ⟨p', q', h1, h2, h3⟩
                              by_cases e : p' = p
                              · subst e; exact .inr ⟨q', h2, h3⟩
                              · exact .inl ⟨p', q', by omega, h2, h3⟩
                          obtain ⟨ad5, g5, e5, hx1, _⟩ := tab_at (HT2.out.1.on HBe.out) HT2.out.2.2 (p := p) (q := 0) (by rw [HT2.out.2.1]; exact hpk) (by omega)
                          obtain rfl := Option.some.inj e5
                          clear HD5 e5
                          go_wp2
                          go_roundw
                          case rel => exact ⟨b5, p + 1, by omega, rfl, by go_num, HD7, HBe⟩
                          case measure => simp [intOf]; omega
                · as_aux_lemma =>
                    obtain rfl : p = k := by omega
                    have HT9 : Hid (TabAt wr A3 N rs3) := HT3.out.1.on HBe.out
                    have HB9 : Hid (Below w3.heap.size w3 wr) := HBb.out.trans (HBe.out.mono HBb.out.size)
                    have HM3 : Hid (cntY p N (memB wr (.slice A3 p c3)) = cntY p N Z) := cntY_congr fun p' q' hp' hq' => memB_tab HT9.out HT3.out.2.2 (by rw [HT3.out.2.1]; exact hp') hq'
                    rcases b with _ | _
                    · have HSame : Hid (∀ p' q', p' < p → q' < N → Z p' q' = X p' q') := fun p' q' h1 h2 => by
                        rcases Classical.em (X p' q' = Z p' q') with h | h
                        · exact h.symm
                        · have := HD.out.2 ⟨p', q', h1, h2, h⟩
                          cases this
                      have HX9 : Hid (TabAt wr A3 N rs3 ∧ rs3.length = p ∧ RowsM N rs3 X) := ⟨HT9.out, HT3.out.2.1, rowsM_congr HT3.out.2.1 HT3.out.2.2 HSame.out⟩
                      have HR9 : Hid (Rounds P D free X ∧ (false = false → Round P D free X X)) := ⟨HRd.out.1, fun _ p' q' h1 h2 => by
                        rw [← HRz.out p' q' h1 h2, HSame.out p' q' (by rw [← HM.out]; exact h1) (by rw [← HN.out]; exact h2)]⟩
                      have HLe : Hid (cntY p N Z = C0) := by
                        unfold Hid; rw [HMe.out]; exact cntY_congr HSame.out
                      go_wp2
                      go_roundw
                      case rel => exact ⟨false, A3, c3, rs3, X, rfl, rfl, HX9, HR9, HB9⟩
                      case measure =>
                        have h7 := HM3.out
                        have h8 := HLe.out
                        have h9 := HC0.out
                        simp [bOf]
                        rw [h7, ← h9]
                        omega
                    · have HX9 : Hid (TabAt wr A3 N rs3 ∧ rs3.length = p ∧ RowsM N rs3 Z) := ⟨HT9.out, HT3.out.2⟩
                      have HR9 : Hid (Rounds P D free Z ∧ (true = false → Round P D free Z Z)) := ⟨.round HRd.out.1 HRz.out, fun e => by cases e⟩
                      have HLe : Hid (cntY p N Z < C0) := by
                        unfold Hid
                        rw [HMe.out]
                        obtain ⟨p', q', h1, h2, h3⟩ := HD.out.1 rfl
                        have hle : ∀ p q, p < P.next.length → q < D.next.length → Z p q = true → X p q = true := fun p q h1 h2 h => round_less HRz.out h1 h2 h
                        refine cntY_lt (fun p q h1 h2 h => hle p q (by rw [HM.out]; exact h1) (by rw [HN.out]; exact h2) h) ⟨p', q', h1, h2, ?_⟩
                        have := hle p' q' (by rw [HM.out]; exact h1) (by rw [HN.out]; exact h2)
                        rcases hx : X p' q' with _ | _ <;> rcases hz : Z p' q' with _ | _
                        · rw [hx, hz] at h3; exact absurd rfl h3
                        · have := this hz; rw [hx] at this; cases this
                        · exact ⟨rfl, rfl⟩
                        · rw [hx, hz] at h3; exact absurd rfl h3
                      go_wp2
                      go_roundw
                      case rel => exact ⟨true, A3, c3, rs3, Z, rfl, rfl, HX9, HR9, HB9⟩
                      case measure =>
                        have h7 := HM3.out
                        have h8 := HLe.out
                        have h9 := HC0.out
                        simp [bOf]
                        rw [h7, ← h9]
                        omega
  · as_aux_lemma =>
      have hne := int_ne' (show ((e0 + 1 : Nat) : Int) ≠ 0 by omega)
      have HNo : Hid (SupIs P D free zeroA (e0 + 1)) := .inl ⟨by rw [hE]; omega, hE.symm, rfl⟩
      generalize hE1 : ((e0 + 1 : Nat) : Int) = E at *
      have HE1 := Lib.hid hE1
      clear hE1 hE
      obtain ⟨hr0, hf0⟩ := HO.out.dcell (g := w.heap.size + 1 + 1) (l := zero4) (j := 0) (by simp) rfl
      obtain ⟨hr1, hf1⟩ := HO.out.dcell (g := w.heap.size + 1 + 1) (l := zero4) (j := 1) (by simp) rfl
      obtain ⟨hr2, hf2⟩ := HO.out.dcell (g := w.heap.size + 1 + 1) (l := zero4) (j := 2) (by simp) rfl
      obtain ⟨hr3, hf3⟩ := HO.out.dcell (g := w.heap.size + 1 + 1) (l := zero4) (j := 3) (by simp) rfl
      have HEnd := Lib.hid (res_bad HO.out rfl)
      rw [HW3.out] at hr0 hf0 hr1 hf1 hr2 hf2 hr3 hf3
      go_wp2
      rw [← HW3.out]
      obtain ⟨k2, k3, k4, k5, k6⟩ := HEnd.out
      refine bodyPost_ret (results_dfa rfl _ rfl k3 k4 k5 k6) rfl ⟨_, zeroA, e0 + 1, by rw [HE1.out]; rfl, HNo.out, dfaOwn_zero (HB0.out.trans (k2.mono HB0.out.size))⟩
end Go.Proofs.YtbciefeipiphiaaDoor.Su
