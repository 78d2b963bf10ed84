/- The walk of the document's answer for the smallest automaton: stilewardref1's Minimal. -/
import Derived.Test.YtinehjfanabegaaDoorRefSame
import Derived.Test.YtinehjfanabegaaDoorRefTrim
import Derived.Test.YtinehjfanabegaaDoorDfaS
namespace Go.Proofs.YtinehjfanabegaaDoor.Sm
open Go.RowKit Go.IntWalk Go.Proofs.YtinehjfanabegaaDoor.Wd Go.Proofs.YtinehjfanabegaaDoor.Wo Go.Proofs.YtinehjfanabegaaDoor.Df Go.Proofs.YtinehjfanabegaaDoor.Rc

/-- Each state's first one that is alike, midway. -/
def stF (d : Aut) (s t : Nat) : Int := if t < s then ((kin d d t : Nat) : Int) else 0
def kinI (d : Aut) (t : Nat) : Int := ((kin d d t : Nat) : Int)
theorem stF_start (d : Aut) (n : Nat) : List.replicate n 0 = iF n (stF d 0) := by
  rw [← iF_zero]; exact iF_congr fun t _ => by unfold stF; rw [if_neg (by omega)]
theorem stF_step (d : Aut) (s n : Nat) : (iF n (stF d s)).set s ((kin d d s : Nat) : Int) = iF n (stF d (s + 1)) := by
  rw [iF_set]
  refine iF_congr fun t _ => ?_
  unfold stF
  by_cases e : t = s
  · subst e; rw [if_pos rfl, if_pos (by omega)]
  · rw [if_neg e]
    by_cases e2 : t < s
    · rw [if_pos e2, if_pos (by omega)]
    · rw [if_neg e2, if_neg (by omega)]
theorem stF_full (d : Aut) (n : Nat) : iF n (stF d n) = iF n (kinI d) := iF_congr fun t ht => by unfold stF kinI; rw [if_pos ht]
/-- A row, midway. -/
def rowQ (d : Aut) (k c : Nat) : List Int := ((S1 d k).take c).map fun t => ((kin d d t : Nat) : Int)
theorem rowQ_step {d : Aut} {k c t : Nat} (h : (S1 d k)[c]? = some t) : rowQ d k (c + 1) = rowQ d k c ++ [kinI d t] := take_succ_map _ _ h
theorem rowQ_len (d : Aut) (k c : Nat) : (rowQ d k c).length ≤ c := by unfold rowQ; rw [List.length_map, List.length_take]; omega
/-- The result under way. -/
def QM (w2 wr : World) (g gs N : Nat) (d : Aut) (n p k : Nat) : Prop := ∃ nv fv rr, Build w2 wr g [eInts (rowV gs N) (iF N (kinI d))] (n : Int) (kinI d p) ((quo d).next.take k) (d.fin.take k) nv fv rr
/-- The same within a row. -/
def QR (w2 wr : World) (g gs N : Nat) (d : Aut) (n p k : Nat) (nv fv : Value) (rr : List (Value × List Int)) (rv : Value) (c : Nat) : Prop :=
  Own w2 wr (eInts rv (rowQ d k c) :: eRows nv (rr.map (·.1)) :: eBools fv (d.fin.take k) :: eDfa g [.int .i64 (n : Int), .int .i64 (kinI d p), nv, fv] :: [eInts (rowV gs N) (iF N (kinI d))]) (eEach rr)
theorem kin_small {d : Aut} (g : Df.Good d) {t : Nat} (h : t < d.next.length) : Small (kinI d t) := by
  have h1 := (stand_spec g h).2.1
  have := g.n40
  unfold kinI
  exact ⟨by omega, by omega⟩
theorem quo_small {d : Aut} (g : Df.Good d) : ∀ r ∈ (quo d).next, ∀ x ∈ r, Small x := good_small (quo_good g)
set_option linter.unusedSimpArgs false in
set_option maxRecDepth 100000 in
set_option maxHeartbeats 4000000 in
theorem rmin_any (v : Value) (d : Aut) (w : World) (h : DfaAt w w.heap.size v d) (hg : Df.Good d) :
    Calls Tryd.prog 43 #[v] w fun e w' => Hid (∃ x, e = .returned x ∧ DfaOwn w w' x (minA d)) := by
  have HV := h
  obtain ⟨L, s, A, c, F, cf, rfl, h⟩ := h
  obtain ⟨w1, hw1, hB1, hX, hd1⟩ := box_dfa w h
  have HB := Lib.hid hB1
  have HX := Lib.hid hX
  have HW := Lib.hid hw1
  have HD := Lib.hid hd1
  have hres := below_alloc w1 (.cells #[.int .i64 0, .int .i64 0, .slice none 0 0, .slice none 0 0] 25)
  have HX2 := Lib.hid (hX.on hres)
  have hc0 := HX2.out.c0
  have hc1 := HX2.out.c1
  have hc2 := HX2.out.c2
  have hc3 := HX2.out.c3
  have HO := Lib.hid ((own_start w1).dfa (.int .i64 0) (.int .i64 0) (.slice none 0 0) (.slice none 0 0))
  have hsz : w1.heap.size = w.heap.size + 1 := by rw [hw1]; simp
  rw [hsz] at HO
  have HG := Lib.hid hg
  have HT := Lib.hid (rapart_any _ _ d d _ ((HV.on hB1).on hres) ((HV.on hB1).on hres) (Good2.self hg))
  have HRes := Lib.hid hres
  obtain ⟨p, hp⟩ := Int.eq_ofNat_of_zero_le (show 0 ≤ s by have := hg.st.1; have := h.es; omega)
  obtain ⟨n, hn⟩ := Int.eq_ofNat_of_zero_le (show 0 ≤ L by have := hg.l1; have := h.eL; omega)
  subst hp hn
  have hps : d.s.toNat = p := by have := h.es; omega
  have hsl : p < d.next.length := by have := hg.s_lt; omega
  have HL : Hid (d.L = (n : Int)) := h.eL
  have HPs := Lib.hid hps
  have hn6 : n ≤ 6 := by have := hg.l6; have := h.eL; omega
  have h40 := hg.n40
  have hfn := hg.fin
  clear h hd1 hw1 hX hB1 hg hps hres HV
  generalize hm : d.fin.length = m at *
  generalize hN : d.next.length = N at *
  have HN := Lib.hid hN
  have hmN : N ≤ m := by omega
  have hmN2 : m ≤ N := by omega
  have HM := Lib.hid hm
  clear hN hm hfn
  go_enter Tryd.func43, Tryd.ntmps43
  go_wp2_with fail
  rw [← HW.out]
  clear HW
  refine HT.out.mono ?_
  rintro e w2 he
  obtain ⟨At, ct, rs, rfl, hlen, hrows, htab, hbel⟩ := he.out
  have HO2 := Lib.hid (HO.out.on hbel)
  have HB2 := Lib.hid (HRes.out.trans (hbel.mono HRes.out.size))
  have HLen := Lib.hid hlen
  have HRows := Lib.hid hrows
  have HTab := Lib.hid htab
  clear hc0 hc1 hc2 hc3 HX2 he hlen hrows htab hbel HT HO HRes
  have HX2 := Lib.hid (HX.out.on HB2.out)
  have HD2 := Lib.hid (HD.out.on HB2.out)
  clear HX HD
  have hc2 := HX2.out.c2
  go_wp2_with (at_make; refine mk_ints rfl _ _ rfl N rfl rfl (by omega) ?_)
  intro w4 hm4
  have HS0 : Hid (Own w2 w4 [eInts (rowV w2.heap.size N) (iF N (stF d 0))] []) := by rw [← stF_start]; exact Own.of_nums hm4
  clear hm4 hc2
  obtain ⟨gs, hgs⟩ : ∃ gs, gs = w2.heap.size := ⟨_, rfl⟩
  rw [← hgs] at HS0
  rw [← hgs]
  clear hgs
  go_wp2
  go_loopw [5] (fun i wr => ∃ (s : Nat), s ≤ N ∧ i = .int .i64 s ∧ Hid (Own w2 wr [eInts (rowV gs N) (iF N (stF d s))] [])) (fun i _ => N - (intOf i).toNat)
  case atStart => exact ⟨0, by omega, rfl, HS0⟩
  case round =>
    clear HS0
    obtain ⟨s, hs, rfl, HS⟩ := hrel
    by_cases hsN : s < N
    · as_aux_lemma =>
        have HsN : Hid (s < d.next.length) := by unfold Hid; rw [HN.out]; exact hsN
        obtain ⟨hk1, hk2, _, hk4⟩ := kin_spec (Good2.self HG.out) HsN.out HsN.out (Alike.refl d s)
        have hk3 := (stand_spec HG.out HsN.out).2.2
        rw [HN.out] at hk2
        have HNo : Hid (∀ t, t < kin d d s → ∃ j : Nat, lev d d s t = (j : Int)) := fun t ht => by
          rcases lev_cases d d s t with e | e
          · exact absurd ((lev_never (Good2.self HG.out) HsN.out (by rw [HN.out]; omega)).1 e) (hk4 t ht)
          · exact e
        have HYes : Hid (lev d d s (kin d d s) = -1) := (lev_never (Good2.self HG.out) HsN.out (by rw [HN.out]; omega)).2 hk3
        have HS2 : Hid (Own w2 (wr.setCell ⟨gs, s, none⟩ (.int .i64 ((kin d d s : Nat) : Int))) [eInts (rowV gs N) (iF N (stF d (s + 1)))] []) := by
          rw [← stF_step]; exact own_ints_set HS.out (iF_length _ _) s _
        obtain ⟨hq1, hq2⟩ := own_ints_cell (g := gs) (n := N) (cap := N) (l := iF N (stF d s)) HS.out (List.mem_append_left _ List.mem_cons_self) (iF_length _ _) (iF_get _ hsN)
        have HTw := Lib.hid (HTab.out.on HS.out.below)
        clear hk1 hk3 hk4 HS
        generalize stF d s s = old at *
        generalize hK : kin d d s = K at *
        clear hK
        go_wp2
        go_loop [6] (fun i => ∃ (t : Nat), t ≤ K ∧ i = .int .i64 t) (fun i => K - (intOf i).toNat)
        case atStart => exact ⟨0, by omega, rfl⟩
        case round =>
          obtain ⟨t, ht, rfl⟩ := hrel
          obtain ⟨adt, r0, eT, h1, h2⟩ := HTw.out.at_ HRows.out (x := s) (y := t) (by rw [HLen.out]; exact hsN) (by omega)
          subst eT
          have e1 : (s : Int) < (N : Int) := by omega
          have e2 : (t : Int) < (N : Int) := by omega
          by_cases htK : t < K
          · obtain ⟨j, hj⟩ := HNo.out t htK
            rw [hj] at h2
            clear hj
            go_wp2
            go_round
            case rel => exact ⟨t + 1, by omega, by go_num⟩
            case measure => simp [intOf]; omega
          · obtain rfl : t = K := by omega
            rw [HYes.out] at h2
            go_wp2
            go_roundw
            case rel => exact ⟨s + 1, by omega, by go_num, HS2⟩
            case measure => simp [intOf]; omega
    · obtain rfl : s = N := by omega
      have HSt : Hid (Own w2 wr [eInts (rowV gs s) (iF s (kinI d))] []) := by rw [← stF_full]; exact HS.out
      clear HS
      have hpl := hsl
      have hc0 := (HX2.out.on HSt.out.below).c0
      have hc1 := (HX2.out.on HSt.out.below).c1
      have hkp := (own_ints_cell (g := gs) (n := s) (cap := s) (l := iF s (kinI d)) HSt.out (List.mem_append_left _ List.mem_cons_self) (iF_length _ _) (iF_get _ hsl)).1
      have e1 : (p : Int) < (s : Int) := by omega
      generalize hkk : kinI d p = kp at *
      have HK := Lib.hid hkk
      clear hkk
      have HK10 : Hid (∀ W es fs, Own w2 W es fs → eInts (rowV gs s) (iF s (kinI d)) ∈ es ++ fs → W.cell? ⟨w.heap.size, 0, none⟩ = some (.int .i64 (n : Int)) ∧ W.cell? ⟨w.heap.size, 1, none⟩ = some (.int .i64 (p : Int)) ∧ W.cell? ⟨gs, p, none⟩ = some (.int .i64 kp)) := fun W es fs hW hm => by
        rw [← HK.out]
        exact ⟨(HX2.out.on hW.below).c0, (HX2.out.on hW.below).c1, (own_ints_cell (g := gs) (n := s) (cap := s) (l := iF s (kinI d)) hW hm (iF_length _ _) (iF_get _ hpl)).1⟩
      have HS3 := Lib.hid ((HSt.out.dfa (.int .i64 0) (.int .i64 0) (.slice none 0 0) (.slice none 0 0)).on (Below.refl _ _).drew)
      clear hc0 hc1 hkp
      go_wp2_with fail
      refine wp_region_Z (fun W => W.cell? ⟨w.heap.size, 0, none⟩ = some (.int .i64 (n : Int)) ∧ W.cell? ⟨w.heap.size, 1, none⟩ = some (.int .i64 (p : Int)) ∧ W.cell? ⟨gs, p, none⟩ = some (.int .i64 kp)) 9 (by kernel_rfl) (HK10.out _ _ _ (HSt.out.on (Below.refl _ _).drew) (by simp)) (fun hHeld => ?_)
      refine wpZ_take (i := 0) (v := ?_) rfl (by kernel_rfl) (by kernel_rfl) (by kernel_rfl) (by kernel_rfl) (fun _ _ _ h => h) (Or.inl ⟨by rfl, ?_⟩) hHeld ?_
      rotate_left
      · (go_light; intro w9 hSw; (try dsimp only at hSw); go_simp; try with_reducible rfl)
      try simp only [Act.put, List.setIfInBounds_toArray, List.set_cons_zero, List.set_cons_succ]
      refine wpZ_take (i := 1) (v := ?_) rfl (by kernel_rfl) (by kernel_rfl) (by kernel_rfl) (by kernel_rfl) (fun _ _ _ h => h) (Or.inl ⟨by rfl, ?_⟩) hHeld ?_
      rotate_left
      · (go_light; intro w9 hSw; (try dsimp only at hSw); go_simp; try with_reducible rfl)
      try simp only [Act.put, List.setIfInBounds_toArray, List.set_cons_zero, List.set_cons_succ]
      refine wpZ_take (i := 2) (v := ?_) rfl (by kernel_rfl) (by kernel_rfl) (by kernel_rfl) (by kernel_rfl) (fun _ _ _ h => h) (Or.inl ⟨by rfl, ?_⟩) hHeld ?_
      rotate_left
      · (go_light; intro w9 hSw; (try dsimp only at hSw); go_simp; try with_reducible rfl)
      try simp only [Act.put, List.setIfInBounds_toArray, List.set_cons_zero, List.set_cons_succ]
      refine wpZ_take (i := 3) (v := ?_) rfl (by kernel_rfl) (by kernel_rfl) (by kernel_rfl) (by kernel_rfl) (fun _ _ _ h => h) (Or.inl ⟨by rfl, ?_⟩) hHeld ?_
      rotate_left
      · (go_light; intro w9 hSw; (try dsimp only at hSw); go_simp; try with_reducible rfl)
      try simp only [Act.put, List.setIfInBounds_toArray, List.set_cons_zero, List.set_cons_succ]
      refine wpZ_take (i := 4) (v := ?_) rfl (by kernel_rfl) (by kernel_rfl) (by kernel_rfl) (by kernel_rfl) (fun _ _ _ h => h) (Or.inl ⟨by rfl, ?_⟩) hHeld ?_
      rotate_left
      · (go_light; intro w9 hSw; (try dsimp only at hSw); go_simp; try with_reducible rfl)
      try simp only [Act.put, List.setIfInBounds_toArray, List.set_cons_zero, List.set_cons_succ]
      refine wpZ_take (i := 5) (v := ?_) rfl (by kernel_rfl) (by kernel_rfl) (by kernel_rfl) (by kernel_rfl) (fun _ _ _ h => h) (Or.inl ⟨by rfl, ?_⟩) hHeld ?_
      rotate_left
      · (go_light; intro w9 hSw; (try dsimp only at hSw); go_simp; try with_reducible rfl)
      try simp only [Act.put, List.setIfInBounds_toArray, List.set_cons_zero, List.set_cons_succ]
      refine wpZ_take (i := 6) (v := ?_) rfl (by kernel_rfl) (by kernel_rfl) (by kernel_rfl) (by kernel_rfl) (fun _ _ _ h => h) (Or.inl ⟨by rfl, ?_⟩) hHeld ?_
      rotate_left
      · (go_light; intro w9 hSw; (try dsimp only at hSw); go_simp; try with_reducible rfl)
      try simp only [Act.put, List.setIfInBounds_toArray, List.set_cons_zero, List.set_cons_succ]
      refine wpZ_take (i := 7) (v := ?_) rfl (by kernel_rfl) (by kernel_rfl) (by kernel_rfl) (by kernel_rfl) (fun _ _ _ h => h) (Or.inl ⟨by rfl, ?_⟩) hHeld ?_
      rotate_left
      · (go_light; intro w9 hSw; (try dsimp only at hSw); go_simp; try with_reducible rfl)
      try simp only [Act.put, List.setIfInBounds_toArray, List.set_cons_zero, List.set_cons_succ]
      refine wpZ_one (i := 8) rfl (by kernel_rfl) (fun K hK => ?_)
      go_simp
      refine hK.out _ _ (fun _ => HK10.out _ _ _ HS3.out (by simp)) (fun hHeld9 => ?_)
      replace hHeld := hHeld9 (by decide)
      clear hHeld9
      clear hK K
      try simp only [Act.put, List.setIfInBounds_toArray, List.set_cons_zero, List.set_cons_succ]
      refine wpZ_one (i := 9) rfl (by kernel_rfl) (fun K hK => ?_)
      obtain ⟨hr0, hf0⟩ := HS3.out.dcell (g := wr.heap.size) (l := zero4) (j := 0) (by simp) rfl
      obtain ⟨hr1, hf1⟩ := HS3.out.dcell (g := wr.heap.size) (l := zero4) (j := 1) (by simp) rfl
      obtain ⟨hr2, hf2⟩ := HS3.out.dcell (g := wr.heap.size) (l := zero4) (j := 2) (by simp) rfl
      obtain ⟨hr3, hf3⟩ := HS3.out.dcell (g := wr.heap.size) (l := zero4) (j := 3) (by simp) rfl
      go_simp
      refine hK.out _ _ (fun k => absurd rfl k) (fun _ => ?_)
      clear hK K
      try simp only [Act.put, List.setIfInBounds_toArray, List.set_cons_zero, List.set_cons_succ]
      refine wpZ_done (by kernel_rfl) ?_ _
      have HQ0 : Hid (QM w2 ((wr.alloc (.cells #[.int .i64 (n : Int), .int .i64 kp, .slice none 0 0, .slice none 0 0] 25)).drew) wr.heap.size gs s d n p 0) := by
        have h9 := (HSt.out.dfa (.int .i64 (n : Int)) (.int .i64 kp) (.slice none 0 0) (.slice none 0 0)).on (Below.refl _ _).drew
        refine ⟨.slice none 0 0, .slice none 0 0, [], rfl, ?_⟩
        rw [HK.out]
        exact (h9.nil 4 1).nil 26 1
      clear HS3 HSt HK10 hHeld hr0 hr1 hr2 hr3 hf0 hf1 hf2 hf3
      go_wp2
      generalize ((wr.alloc (.cells #[.int .i64 (n : Int), .int .i64 kp, .slice none 0 0, .slice none 0 0] 25)).drew) = wz at *
      generalize wr.heap.size = g at *
      go_loopw [8] (fun i wr => ∃ (k : Nat), k ≤ s ∧ i = .int .i64 k ∧ Hid (QM w2 wr g gs s d n p k)) (fun i _ => s - (intOf i).toNat)
      case atStart => exact ⟨0, by omega, rfl, HQ0⟩
      case round =>
        clear HQ0
        obtain ⟨k, hk, rfl, HS⟩ := hrel
        obtain ⟨nv, fv, rr, hrr, hown⟩ := HS.out
        have HRR := Lib.hid hrr
        have HOw := Lib.hid hown
        clear hrr hown HS
        by_cases hks : k < s
        · have HKs : Hid (k < d.next.length) := by unfold Hid; rw [HN.out]; exact hks
          have HR0 : Hid (QR w2 wr g gs s d n p k nv fv rr (.slice none 0 0) 0) := HOw.out.nil 3 1
          clear HOw
          go_wp2
          go_loopw [9, 10] (fun rv i wi => ∃ (q : Nat), q ≤ n ∧ i = .int .i64 q ∧ Hid (QR w2 wi g gs s d n p k nv fv rr rv q)) (fun _ i _ => n - (intOf i).toNat)
          case atStart => exact ⟨0, by omega, rfl, HR0⟩
          case round =>
            clear HR0
            obtain ⟨q, hq, rfl, HR⟩ := hrel
            have hown := HR.out
            unfold QR at hown
            have hbi := hown.below
            have hc0 := (HX2.out.on hbi).c0
            by_cases hqn : q < n
            · as_aux_lemma =>
                obtain ⟨ad, ar, mr, cr, eA, hadb, hcell, hjm, harb, hac⟩ := (HD2.out.on hbi).step_at HG.out HKs.out (i := q) (by rw [HL.out]; omega)
                subst eA
                have hst := HG.out.step_lt HKs.out (a := q) (by rw [HL.out]; omega)
                rw [HN.out] at hst
                have HS1 := Lib.hid (S1_get d k (c := q) (by rw [HL.out]; omega))
                have hkc := (own_ints_cell (g := gs) (n := s) (cap := s) (l := iF s (kinI d)) hown (List.mem_append_left _ (by simp)) (iF_length _ _) (iF_get _ hst)).1
                have hca := (HX2.out.on hbi).c2
                have hlen := rowQ_len d k q
                have hl1 : (rowQ d k q).length < 17592186044416 := by omega
                have HOn := Lib.hid hown
                have HNx : Hid (rowQ d k (q + 1) = rowQ d k q ++ [kinI d (Df.step d k q)]) := rowQ_step HS1.out
                have e1 : (k : Int) < (s : Int) := by omega
                have e2 : (q : Int) < (mr : Int) := by omega
                have e3 : (Df.step d k q : Int) < (s : Int) := by omega
                clear hown hbi HR hadb harb HS1 hlen
                generalize hrq : rowQ d k q = rq at *
                generalize kinI d (Df.step d k q) = kz at *
                generalize Df.step d k q = u at *
                go_wp2_with (at_builtin; refine own_int (by rfl) _ _ (by rfl) (by rfl) HOn.out (by rfl) hl1 ?_)
                intro g8 cap8 w8 ho8
                have HE : Hid (QR w2 w8 g gs s d n p k nv fv rr (.slice (some ⟨g8, 0, none⟩) (rq.length + 1) cap8) (q + 1)) := by
                  unfold Hid QR
                  rw [HNx.out]
                  exact ho8
                clear ho8 HOn hcell hac hkc hca hc0
                go_wp2
                go_roundw
                case rel => exact ⟨q + 1, by omega, by go_num, HE⟩
                case measure => simp [intOf]; omega
            · as_aux_lemma =>
                obtain rfl : q = n := by omega
                have hS1 : (S1 d k).length = q := by rw [S1_length, HL.out]; rfl
                have hrq : rowQ d k q = (S1 d k).map fun t => ((kin d d t : Nat) : Int) := by unfold rowQ; rw [List.take_of_length_le (by omega)]
                have HRow : Hid ((quo d).next.take (k + 1) = (quo d).next.take k ++ [rowQ d k q]) := by rw [hrq]; exact take_succ' _ (quo_row HKs.out)
                have HFlag : Hid (d.fin.take (k + 1) = d.fin.take k ++ [finA d k]) := take_succ' _ (HG.out.fin_at HKs.out)
                obtain ⟨Ar, cr, hrv, _⟩ := own_read hown (v := u9) (l := rowQ d k q) (by simp)
                subst hrv
                have HLen : Hid ((rr.map (·.1)).length < 1099511627776 ∧ (d.fin.take k).length < 17592186044416) := by
                  have h1 := congrArg List.length HRR.out
                  rw [List.length_map, List.length_take] at h1
                  exact ⟨by rw [List.length_map]; omega, by rw [List.length_take]; omega⟩
                have HO2' := Lib.hid hown.two
                obtain ⟨hg2, hgf2⟩ := hown.dcell (g := g) (l := [.int .i64 (q : Int), .int .i64 (kinI d p), nv, fv]) (j := 2) (by simp) rfl
                obtain ⟨A2, c2, hnv, _⟩ := hown.form (e := eRows nv (rr.map (·.1))) (by simp)
                simp only [eRows, List.length_map] at hnv
                subst hnv
                clear hown HR hS1 hbi hrq
                rw [HK.out] at HO2'
                generalize (quo d).next.take k = rws at *
                generalize d.fin.take k = bs at *
                generalize rowQ d k q = rowx at *
                go_wp2_with (at_builtin; refine own_row (by rfl) _ _ (by rfl) (by rfl) HO2'.out (by rfl) (by rfl) HLen.out.1 ?_)
                intro g8 cap8 w8 ho8
                have HB9 : Hid (Build w2 (w8.setCell ⟨g, 2, none⟩ (.slice (some ⟨g8, 0, none⟩) (rr.length + 1) cap8)) g [eInts (rowV gs s) (iF s (kinI d))] (q : Int) kp (rws ++ [rowx]) bs (.slice (some ⟨g8, 0, none⟩) (rr.length + 1) cap8) fv (rr ++ [(.slice Ar rowx.length cr, rowx)])) :=
                  build_row HRR.out ho8 rfl
                obtain ⟨hk8, hf8⟩ := ho8.dcell (g := g) (l := [.int .i64 (q : Int), .int .i64 kp, .slice A2 rr.length c2, fv]) (j := 2) (by simp) rfl
                rw [← HRow.out] at HB9
                clear ho8 hg2 hgf2 HO2' HRow hc0
                go_wp2_with fail
                generalize hw9 : w8.setCell ⟨g, 2, none⟩ (.slice (some ⟨g8, 0, none⟩) (rr.length + 1) cap8) = w9 at *
                clear hw9 hk8 hf8
                have HBA := Lib.hid (HD2.out.fins.at_ (HG.out.fin_at HKs.out))
                obtain ⟨adf, eF, _, _, _⟩ := HBA.out
                subst eF
                have e7 : (k : Int) < (m : Int) := by omega
                have HO5 := Lib.hid HB9.out.2.two
                generalize (Value.slice (some ⟨g8, 0, none⟩) (rr.length + 1) cap8) = nv9 at *
                generalize (rr ++ [(Value.slice Ar rowx.length cr, rowx)]) = rr9 at *
                generalize finA d k = b at *
                have HKr : Hid (∀ W es fs, Own w2 W es fs → eDfa g [.int .i64 (q : Int), .int .i64 kp, nv9, fv] ∈ es ++ fs → W.cell? ⟨g, 3, none⟩ = some fv ∧ W.cell? ⟨w.heap.size, 3, none⟩ = some (.slice (some adf) m cf) ∧ W.cell? (adf.add k) = some (.bool b)) := fun W es fs hW hm2 => by
                  obtain ⟨ad1, e1, _, c1, _⟩ := HBA.out
                  cases e1
                  exact ⟨(hW.dcell hm2 rfl).1, (HX2.out.on hW.below).c3, (hW.below.cell (by rw [Wd.block_add]; assumption)).trans c1⟩
                refine wp_region_Z (fun W => W.cell? ⟨g, 3, none⟩ = some fv ∧ W.cell? ⟨w.heap.size, 3, none⟩ = some (.slice (some adf) m cf) ∧ W.cell? (adf.add k) = some (.bool b)) 10 (by kernel_rfl) (HKr.out _ _ _ (HB9.out.2.on (by go_grown)) (by simp)) (fun hHeld => ?_)
                refine wpZ_take (i := 0) (v := ?_) rfl (by kernel_rfl) (by kernel_rfl) (by kernel_rfl) (by kernel_rfl) (fun _ _ _ h => h) (Or.inl ⟨by rfl, ?_⟩) hHeld ?_
                rotate_left
                · (go_light; intro w9 hSw; (try dsimp only at hSw); go_simp; try with_reducible rfl)
                try simp only [Act.put, List.setIfInBounds_toArray, List.set_cons_zero, List.set_cons_succ]
                refine wpZ_take (i := 1) (v := ?_) rfl (by kernel_rfl) (by kernel_rfl) (by kernel_rfl) (by kernel_rfl) (fun _ _ _ h => h) (Or.inl ⟨by rfl, ?_⟩) hHeld ?_
                rotate_left
                · (go_light; intro w9 hSw; (try dsimp only at hSw); go_simp; try with_reducible rfl)
                try simp only [Act.put, List.setIfInBounds_toArray, List.set_cons_zero, List.set_cons_succ]
                refine wpZ_take (i := 2) (v := ?_) rfl (by kernel_rfl) (by kernel_rfl) (by kernel_rfl) (by kernel_rfl) (fun _ _ _ h => h) (Or.inl ⟨by rfl, ?_⟩) hHeld ?_
                rotate_left
                · (go_light; intro w9 hSw; (try dsimp only at hSw); go_simp; try with_reducible rfl)
                try simp only [Act.put, List.setIfInBounds_toArray, List.set_cons_zero, List.set_cons_succ]
                refine wpZ_take (i := 3) (v := ?_) rfl (by kernel_rfl) (by kernel_rfl) (by kernel_rfl) (by kernel_rfl) (fun _ _ _ h => h) (Or.inl ⟨by rfl, ?_⟩) hHeld ?_
                rotate_left
                · (go_light; intro w9 hSw; (try dsimp only at hSw); go_simp; try with_reducible rfl)
                try simp only [Act.put, List.setIfInBounds_toArray, List.set_cons_zero, List.set_cons_succ]
                refine wpZ_take (i := 4) (v := ?_) rfl (by kernel_rfl) (by kernel_rfl) (by kernel_rfl) (by kernel_rfl) (fun _ _ _ h => h) (Or.inl ⟨by rfl, ?_⟩) hHeld ?_
                rotate_left
                · (go_light; intro w9 hSw; (try dsimp only at hSw); go_simp; try with_reducible rfl)
                try simp only [Act.put, List.setIfInBounds_toArray, List.set_cons_zero, List.set_cons_succ]
                refine wpZ_take (i := 5) (v := ?_) rfl (by kernel_rfl) (by kernel_rfl) (by kernel_rfl) (by kernel_rfl) (fun _ _ _ h => h) (Or.inl ⟨by rfl, ?_⟩) hHeld ?_
                rotate_left
                · (go_light; intro w9 hSw; (try dsimp only at hSw); go_simp; try with_reducible rfl)
                try simp only [Act.put, List.setIfInBounds_toArray, List.set_cons_zero, List.set_cons_succ]
                refine wpZ_take (i := 6) (v := ?_) rfl (by kernel_rfl) (by kernel_rfl) (by kernel_rfl) (by kernel_rfl) (fun _ _ _ h => h) (Or.inl ⟨by rfl, ?_⟩) hHeld ?_
                rotate_left
                · (go_light; intro w9 hSw; (try dsimp only at hSw); go_simp; try with_reducible rfl)
                try simp only [Act.put, List.setIfInBounds_toArray, List.set_cons_zero, List.set_cons_succ]
                refine wpZ_one (i := 7) rfl (by kernel_rfl) (fun K hK => ?_)
                go_simp
                refine hK.out _ _ (fun _ => HKr.out _ _ _ (HB9.out.2.on (by go_grown)) (by simp)) (fun hHeld9 => ?_)
                replace hHeld := hHeld9 (by decide)
                clear hHeld9
                clear hK K
                try simp only [Act.put, List.setIfInBounds_toArray, List.set_cons_zero, List.set_cons_succ]
                refine wpZ_one (i := 8) rfl (by kernel_rfl) (fun K hK => ?_)
                refine step_own_bool (by rfl) _ _ (by rfl) (by rfl) (HO5.out.on (Below.refl _ _).drew) (by rfl) HLen.out.2 ?_
                intro g6 cap6 w6 ho6
                refine hK.out _ _ (fun _ => HKr.out _ _ _ ho6.two (by simp)) (fun hHeld9 => ?_)
                replace hHeld := hHeld9 (by decide)
                clear hHeld9
                clear hK K
                try simp only [Act.put, List.setIfInBounds_toArray, List.set_cons_zero, List.set_cons_succ]
                refine wpZ_take (i := 9) (v := ?_) rfl (by kernel_rfl) (by kernel_rfl) (by kernel_rfl) (by kernel_rfl) (fun _ _ _ h => h) (Or.inl ⟨by rfl, ?_⟩) hHeld ?_
                rotate_left
                · (go_light; intro w9 hSw; (try dsimp only at hSw); go_simp; try with_reducible rfl)
                try simp only [Act.put, List.setIfInBounds_toArray, List.set_cons_zero, List.set_cons_succ]
                refine wpZ_one (i := 10) rfl (by kernel_rfl) (fun K hK => ?_)
                have hk4 := (ho6.dcell (g := g) (l := [.int .i64 (q : Int), .int .i64 kp, nv9, fv]) (j := 3) (by simp) rfl).2
                go_simp
                refine hK.out _ _ (fun k => absurd rfl k) (fun _ => ?_)
                clear hK K
                try simp only [Act.put, List.setIfInBounds_toArray, List.set_cons_zero, List.set_cons_succ]
                refine wpZ_done (by kernel_rfl) ?_ _
                have HB6 : Hid (QM w2 (w6.setCell ⟨g, 3, none⟩ (.slice (some ⟨g6, 0, none⟩) (bs.length + 1) cap6)) g gs s d q p (k + 1)) := by
                  have HBf := build_flag HB9.out.1 ho6 rfl
                  refine ⟨nv9, .slice (some ⟨g6, 0, none⟩) (bs.length + 1) cap6, rr9, ?_⟩
                  rw [HFlag.out, HK.out]
                  exact HBf
                clear HO5 ho6 HB9 HKr hk4 hHeld HBA
                go_wp2
                go_roundw
                case rel => exact ⟨k + 1, by omega, by go_num, HB6⟩
                case measure => simp [intOf]; omega
        · as_aux_lemma =>
          obtain rfl : k = s := by omega
          have HBd0 : Hid (Build w2 wr g [eInts (rowV gs k) (iF k (kinI d))] (n : Int) kp ((quo d).next.take k) (d.fin.take k) nv fv rr) := ⟨HRR.out, by rw [← HK.out]; exact HOw.out⟩
          have hq1 : (quo d).next.length = k := by rw [quo_len]; exact HN.out
          have hq2 : d.fin.length = k := by rw [HG.out.fin]; exact HN.out
          rw [List.take_of_length_le (by omega), List.take_of_length_le (by omega)] at HBd0
          have HQ : Hid (quo d = ⟨(n : Int), kp, (quo d).next, d.fin⟩) := by
            unfold Hid
            rw [← HK.out, ← HL.out, ← HPs.out]
            rfl
          obtain ⟨A2, c2, F2, cf2, e1, e2⟩ := HBd0.out.form
          subst e1 e2
          have hbw := HBd0.out.2.below
          have hq0 := quo_good HG.out
          have HDq : Hid (DfaAt wr wr.heap.size (.agg #[.int .i64 (n : Int), .int .i64 kp, .slice A2 (quo d).next.length c2, .slice F2 d.fin.length cf2]) (quo d)) := by
            have h := own_dfa (nv := .slice A2 (quo d).next.length c2) (fv := .slice F2 d.fin.length cf2) (rs := rr) (bs := d.fin) (L := (n : Int)) (s := kp) HBd0.out.2 (by simp) (fun e he => List.mem_append_right _ he) (by simp)
              (fun p hp => quo_small HG.out _ (by rw [← HBd0.out.1]; exact List.mem_map.2 ⟨p, hp, rfl⟩)) ⟨by omega, by omega⟩ (by rw [← HK.out]; exact kin_small HG.out (by rw [HN.out]; exact hpl))
            rw [HBd0.out.1, ← HQ.out] at h
            exact h
          have HTr := Lib.hid (rtrim_any _ (quo d) wr HDq.out hq0)
          have HOr := Lib.hid (HO2.out.on hbw)
          obtain ⟨hg0, hg1, hg2, hg3⟩ := HBd0.out.str
          clear HBd0 HOw HRR hbw hq0 HDq hq1 hq2
          generalize (quo d).next.length = l1 at *
          generalize d.fin.length = l2 at *
          go_wp2_with fail
          refine HTr.out.mono ?_
          rintro e w7 he
          obtain ⟨x, h6, ho6⟩ := he.out
          subst h6
          obtain ⟨nv, fv, A5, n5, c5, F5, m5, k5, e6, e7, e8⟩ := ho6.form
          have HO7 := Lib.hid (HOr.out.on ho6.below)
          have HO6 : Hid (DfaOwn wr w7 x (minA d)) := ho6
          clear he ho6
          generalize (trimA (quo d)).L = L5 at *
          generalize (trimA (quo d)).s = s5 at *
          subst e6 e7 e8
          obtain ⟨hr0, hf0⟩ := HO7.out.dcell (g := w.heap.size + 1) (l := zero4) (j := 0) (by simp) rfl
          obtain ⟨hr1, hf1⟩ := HO7.out.dcell (g := w.heap.size + 1) (l := zero4) (j := 1) (by simp) rfl
          obtain ⟨hr2, hf2⟩ := HO7.out.dcell (g := w.heap.size + 1) (l := zero4) (j := 2) (by simp) rfl
          obtain ⟨hr3, hf3⟩ := HO7.out.dcell (g := w.heap.size + 1) (l := zero4) (j := 3) (by simp) rfl
          have HEnd := Lib.hid (res_own HOr.out HO6.out rfl)
          clear HTr HOr HO6 HO7 hg0 hg1 hg2 hg3
          go_wp2
          obtain ⟨k1, k3, k4, k5, k6⟩ := HEnd.out
          exact bodyPost_ret (Rc.res_one rfl _ rfl k3 k4 k5 k6) rfl ⟨_, rfl, k1.base HB.out⟩
end Go.Proofs.YtinehjfanabegaaDoor.Sm
