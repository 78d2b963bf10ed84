/- The walk of the document's answer that trims: stilewardref1's Trim. -/
import Derived.Test.YtinehjfanabegaaDoorRefPair
import Derived.Test.YtinehjfanabegaaDoorTrim
import Derived.Test.YtinehjfanabegaaDoorReachL
namespace Go.Proofs.YtinehjfanabegaaDoor.Rc
open Go.RowKit Go.IntWalk Go.Proofs.YtinehjfanabegaaDoor.Wd Go.Proofs.YtinehjfanabegaaDoor.Wo Go.Proofs.YtinehjfanabegaaDoor.Df

theorem res_one {fn : Func} {t : Tmp} (h : fn.results = #[.cell t 25]) (tmps : Array Value) {w : World} {g : Nat} {v0 v1 v2 v3 : Value} (hp : tmps.getD t undef = .pointer (some ⟨g, 0, none⟩))
    (c0 : w.cell? ⟨g, 0, none⟩ = some v0) (c1 : w.cell? ⟨g, 1, none⟩ = some v1) (c2 : w.cell? ⟨g, 2, none⟩ = some v2) (c3 : w.cell? ⟨g, 3, none⟩ = some v3) :
    (results fn tmps).run Tryd.prog w = .ok (.agg #[v0, v1, v2, v3]) w := by
  have hp' : tmps[t]?.getD undef = .pointer (some ⟨g, 0, none⟩) := by simpa using hp
  simp [results, h, hp', go_sem, c0, c1, c2, c3]
theorem part1_next {d : Aut} (g : Df.Good d) {s : Nat} (hs : s < d.next.length) {l : List Nat} {i : Nat} (h : Part (S1 d) s i l) {x : Nat} (hx : l[i]? = some x) : Part (S1 d) s (i + 1) (addAll l (S1 d x)) := by
  refine (h.step hx).2 ?_
  have := nodup_le _ _ (nodup_addAll h.nd (S1 d x)) (fun t ht => by
    rcases mem_addAll.1 ht with ht | ht
    · exact rch_lt1 g hs (h.rch t ht)
    · exact S1_lt g (rch_lt1 g hs (h.rch _ (List.mem_of_getElem? hx))) ht)
  have := g.n40
  omega
theorem ints_app (l : List Nat) (x : Nat) : ints (l ++ [x]) = ints l ++ [(x : Int)] := by unfold ints; rw [List.map_append]; rfl
theorem sizeAl2 (w : World) (o : Obj) : (w.alloc o).heap.size = w.heap.size + 1 := by simp
/-- The trimmed one under way. -/
def UInv (w1 wr : World) (g gr : Nat) (d : Aut) (s n i : Nat) (lv : Value) : Prop :=
  ∃ l nv fv rr, Part (S1 d) s i l ∧ Build w1 wr g (eDfa gr zero4 :: [eInts lv (ints l)]) (n : Int) 0 ((l.take i).map (srow (S1 d) l)) ((l.take i).map (finA d)) nv fv rr
/-- The same within a row. -/
def VInv (w1 wi : World) (g gr : Nat) (d : Aut) (n k : Nat) (l : List Nat) (x c : Nat) (nv fv : Value) (rr : List (Value × List Int)) (lv rv : Value) : Prop :=
  Own w1 wi [eInts lv (ints (addAll l ((S1 d x).take c))), eInts rv (trow (S1 d) l x c), eRows nv (rr.map (·.1)), eBools fv ((l.take k).map (finA d)), eDfa g [.int .i64 (n : Int), .int .i64 0, nv, fv], eDfa gr zero4] (eEach rr)
set_option linter.unusedSimpArgs false in
set_option maxRecDepth 100000 in
set_option maxHeartbeats 4000000 in
theorem rtrim_any (v : Value) (d : Aut) (w : World) (h : DfaAt w w.heap.size v d) (hg : Df.Good d) :
    Calls Tryd.prog 38 #[v] w fun e w' => Hid (∃ x, e = .returned x ∧ DfaOwn w w' x (trimA d)) := by
  obtain ⟨L, s, A, c, F, cf, rfl, h⟩ := h
  obtain ⟨w1, hw1, hB1, hX, hd1⟩ := box_dfa w h
  have HB := Lib.hid hB1
  have HX := Lib.hid hX
  have HW := Lib.hid hw1
  have HD := Lib.hid hd1
  have hres := below_alloc w1 (.cells #[.int .i64 0, .int .i64 0, .slice none 0 0, .slice none 0 0] 25)
  have HX2 := Lib.hid (hX.on hres)
  have hc0 := HX2.out.c0
  have hc1 := HX2.out.c1
  have hc2 := HX2.out.c2
  have hc3 := HX2.out.c3
  have HO := Lib.hid ((own_start w1).dfa (.int .i64 0) (.int .i64 0) (.slice none 0 0) (.slice none 0 0))
  have hsz : w1.heap.size = w.heap.size + 1 := by rw [hw1]; simp
  rw [hsz] at HO
  have HG := Lib.hid hg
  obtain ⟨p, hp⟩ := Int.eq_ofNat_of_zero_le (show 0 ≤ s by have := hg.st.1; have := h.es; omega)
  obtain ⟨n, hn⟩ := Int.eq_ofNat_of_zero_le (show 0 ≤ L by have := hg.l1; have := h.eL; omega)
  subst hp hn
  have hps : d.s.toNat = p := by have := h.es; omega
  have hsl : p < d.next.length := by have := hg.s_lt; omega
  have HL : Hid (d.L = (n : Int)) := h.eL
  have hn6 : n ≤ 6 := by have := hg.l6; have := h.eL; omega
  have h40 := hg.n40
  have hfn := hg.fin
  have HTr : Hid (trimA d = ⟨d.L, 0, (rset d p).map (srow (S1 d) (rset d p)), (rset d p).map (finA d)⟩) := by
    unfold Hid; unfold trimA autOf; rw [hps]
  have HSl := Lib.hid hsl
  clear h hd1 hw1 hX hB1 hg hps hsl hres
  generalize hm : d.fin.length = m at *
  generalize hN : d.next.length = N at *
  have HN := Lib.hid hN
  have hmN : N ≤ m := by omega
  clear hN hm hfn
  have HS : Hid (UInv w1 (((w1.alloc (.cells #[.int .i64 0, .int .i64 0, .slice none 0 0, .slice none 0 0] 25)).alloc (.cells #[.int .i64 (n : Int), .int .i64 0, .slice none 0 0, .slice none 0 0] 25)).alloc (.cells #[.int .i64 (p : Int)] 3)) (w.heap.size + 1 + 1) (w.heap.size + 1) d p n 0 (.slice (some ⟨w.heap.size + 1 + 1 + 1, 0, none⟩) 1 1)) := by
    have h1 := HO.out.dfa (.int .i64 (n : Int)) (.int .i64 0) (.slice none 0 0) (.slice none 0 0)
    have h2 := h1.lit 3 1 1 #[.int .i64 (p : Int)] rfl (by simp [maxLen])
    simp only [sizeAl2, hsz] at h2
    exact ⟨_, .slice none 0 0, .slice none 0 0, [], part_zero (S1 d) p, rfl, (((h2.re [1, 2, 0] 3 rfl (by decide)).nil 4 1).nil 26 1)⟩
  go_enter Tryd.func38, Tryd.ntmps38
  go_wp2
  rw [← HW.out]
  clear HW hc0 hc1 hc2 hc3 HX2 HO
  generalize w.heap.size + 1 + 1 = g at *
  go_loopw [4, 5] (fun lv i wr => ∃ (k : Nat), k ≤ 40 ∧ i = .int .i64 k ∧ Hid (UInv w1 wr g (w.heap.size + 1) d p n k lv)) (fun _ i _ => 41 - (intOf i).toNat)
  case atStart => exact ⟨0, by omega, rfl, HS⟩
  case round =>
    clear HS
    obtain ⟨k, hk, rfl, HS⟩ := hrel
    obtain ⟨l, nv, fv, rr, hpart, hbd⟩ := HS.out
    have HP := Lib.hid hpart
    have HBd := Lib.hid hbd
    obtain ⟨Al, cl, hlv, hla⟩ := own_read hbd.2 (v := u4) (l := ints l) (by simp)
    rw [ints_length] at hlv
    subst hlv
    have hl40 := hpart.n40
    have hkl := hpart.le
    clear HS hpart hbd hla
    by_cases hlt : k < l.length
    · obtain ⟨x, hx⟩ := get_of_lt hlt
      have HXL := Lib.hid hx
      have hx1 : x < d.next.length := rch_lt1 HG.out (by rw [HN.out]; exact HSl.out) (HP.out.rch _ (List.mem_of_getElem? hx))
      have HX1 := Lib.hid hx1
      obtain ⟨HRR, hown⟩ := HBd.out
      have HRR := Lib.hid HRR
      have HR0 : Hid (VInv w1 wr g (w.heap.size + 1) d n k l x 0 nv fv rr (.slice Al l.length cl) (.slice none 0 0)) := (hown.nil 3 1).re [5, 0, 1, 2, 3, 4] 6 rfl (by decide)
      clear hown hx hx1 HBd
      go_wp2
      go_loopw [4, 6, 7] (fun lv rv i wi => ∃ (q : Nat), q ≤ n ∧ i = .int .i64 q ∧ Hid (VInv w1 wi g (w.heap.size + 1) d n k l x q nv fv rr lv rv)) (fun _ _ i _ => n - (intOf i).toNat)
      case atStart => exact ⟨0, by omega, rfl, HR0⟩
      case round =>
        clear HR0
        obtain ⟨q, hq, rfl, HR⟩ := hrel
        have hR := HR.out
        unfold VInv at hR
        have hbi := hR.below
        have HXi := Lib.hid (HX.out.on hbi)
        have hc0 := HXi.out.c0
        by_cases hqn : q < n
        · as_aux_lemma =>
            obtain ⟨ada, ara, ma, ca, eA, ha0, ha1, ha2, ha3, ha4⟩ := (HD.out.on hbi).step_at HG.out (q := x) (i := q) HX1.out (by rw [HL.out]; omega)
            subst eA
            have HT := Lib.hid (S1_get d x (c := q) (by rw [HL.out]; omega))
            have hx1 := HX1.out
            rw [HN.out] at hx1
            generalize Df.step d x q = sa at *
            have HAS := Lib.hid (addAll_succ (l := l) HT.out)
            have HTS := Lib.hid (trow_step (l := l) HT.out)
            have hLn : (addAll l ((S1 d x).take q)).length ≤ 100 := by
              have h1 := addAll_length_le l ((S1 d x).take q)
              have h2 := List.length_take (i := q) (l := S1 d x)
              omega
            have hLk : (addAll l ((S1 d x).take q))[k]? = some x := by
              obtain ⟨m, hm⟩ := addAll_prefix l ((S1 d x).take q)
              rw [hm, List.getElem?_append_left hlt]; exact HXL.out
            have hTl : (trow (S1 d) l x q).length ≤ 100 := by
              unfold trow
              have h2 := List.length_take (i := q) (l := S1 d x)
              rw [List.length_map]; omega
            generalize addAll l ((S1 d x).take q) = Lq at *
            generalize trow (S1 d) l x q = tq at *
            generalize hbs : (l.take k).map (finA d) = bs at *
            have HBs := Lib.hid hbs
            clear hbs
            obtain ⟨Al', cl', hlv, hla⟩ := own_read hR (v := u4) (l := ints Lq) (by simp)
            rw [ints_length] at hlv
            subst hlv
            obtain ⟨adl, e1, hxb, hxc⟩ := cells_int hla (ints_get hLk)
            subst e1
            have HLA := Lib.hid hla
            have hkL : k < Lq.length := (List.getElem?_eq_some_iff.1 hLk).1
            have hca := HXi.out.c2
            have HR2 := Lib.hid hR
            have HY0 : Hid (sa ∉ Lq.take 0) := by simp [Hid]
            have e1 : (x : Int) < (N : Int) := by omega
            have e3 : (q : Int) < (ma : Int) := by omega
            have e5 : (k : Int) < (Lq.length : Int) := by omega
            clear hla hR hbi HR hLk HT hx1
            go_wp2
            go_region
            go_wp2
            clear hca hxc ha0 ha1 ha2 ha3 ha4 e1 e3 e5 hc0 hxb HXi
            have hbq : Below wr.heap.size wr wr.drew := (Below.refl _ _).drew
            have HLA := Lib.hid ((Cells.below HLA.out hbq).more hbq.size)
            have HR2 := Lib.hid (HR2.out.on hbq)
            clear hbq
            generalize wr.drew = wq at *
            go_loop [9] (fun i => ∃ (j : Nat), j ≤ Lq.length ∧ i = .int .i64 j ∧ Hid (sa ∉ Lq.take j)) (fun i => Lq.length - (intOf i).toNat)
            case atStart => exact ⟨0, by omega, rfl, HY0⟩
            case round =>
              clear HY0
              obtain ⟨j, hj, rfl, HJ⟩ := hrel
              by_cases hjl : j < Lq.length
              · have hju := List.getElem?_eq_getElem hjl
                obtain ⟨adl', ex, hxb', hxc'⟩ := cells_int HLA.out (ints_get hju)
                obtain rfl := Option.some.inj ex
                by_cases hfd : sa = Lq[j]
                · as_aux_lemma =>
                    have HF1 : Hid (addTo Lq sa = Lq ∧ num Lq sa = j) := ⟨by unfold addTo; rw [if_pos (hfd ▸ List.getElem_mem hjl)], idx_at HJ.out hjl hfd⟩
                    rw [← hfd] at hxc'
                    have f1 := int_eq' (show (sa : Int) = (sa : Int) from rfl)
                    have f3 := int_ne (show (j : Int) ≠ (Lq.length : Int) by omega)
                    have HR3 : Hid (Own w1 wq (eInts u6 tq :: [eInts (.slice (some adl) Lq.length cl') (ints Lq), eRows nv (rr.map (·.1)), eBools fv bs, eDfa g [.int .i64 (n : Int), .int .i64 0, nv, fv], eDfa (w.heap.size + 1) zero4]) (eEach rr)) := HR2.out.two
                    clear hfd hju ex HLA
                    go_wp2_with (at_builtin; refine own_int (by rfl) _ _ (by rfl) (by rfl) HR3.out (by rfl) (by omega) ?_)
                    intro g7 cap7 w7 ho7
                    have HR9 : Hid (VInv w1 w7 g (w.heap.size + 1) d n k l x (q + 1) nv fv rr (.slice (some adl) Lq.length cl') (.slice (some ⟨g7, 0, none⟩) (tq.length + 1) cap7)) := by
                      unfold Hid VInv
                      rw [HAS.out, HTS.out, HF1.out.1, HF1.out.2, HBs.out]
                      exact ho7.two
                    clear ho7 HR3 HR2 hxc' HJ
                    go_wp2
                    go_roundw
                    case rel => exact ⟨q + 1, by omega, by go_num, HR9⟩
                    case measure => simp [intOf]; omega
                · as_aux_lemma =>
                    have HJ1 := Lib.hid (notin_take_succ HJ.out hjl hfd)
                    have f1 := int_ne' (show ((Lq[j] : Nat) : Int) ≠ (sa : Int) by omega)
                    clear hfd hju
                    generalize Lq[j] = u at *
                    go_wp2
                    go_round
                    case rel => exact ⟨j + 1, by omega, by go_num, HJ1⟩
                    case measure => simp [intOf]; omega
              · as_aux_lemma =>
                  obtain rfl : j = Lq.length := by omega
                  have hnm : sa ∉ Lq := by
                    have := HJ.out
                    rwa [List.take_length] at this
                  have HF2 : Hid (addTo Lq sa = Lq ++ [sa] ∧ num (Lq ++ [sa]) sa = Lq.length) := ⟨by unfold addTo; rw [if_neg hnm], idx_new hnm⟩
                  have f3 := int_eq (show (Lq.length : Int) = (Lq.length : Int) from rfl)
                  have HFs : Hid (ints (Lq ++ [sa]) = ints Lq ++ [(sa : Int)]) := ints_app _ _
                  have hl1 : (ints Lq).length < 17592186044416 := by rw [ints_length]; omega
                  clear hnm HLA HJ
                  generalize ints Lq = X at *
                  have HR3 : Hid (Own w1 wq (eInts (.slice (some adl) Lq.length cl') X :: [eInts u6 tq, eRows nv (rr.map (·.1)), eBools fv bs, eDfa g [.int .i64 (n : Int), .int .i64 0, nv, fv], eDfa (w.heap.size + 1) zero4]) (eEach rr)) := HR2.out
                  go_wp2_with (at_builtin; refine own_int (by rfl) _ _ (by rfl) (by rfl) HR3.out (by rfl) hl1 ?_)
                  intro g7 cap7 w7 ho7
                  have HO7 := Lib.hid ho7.two
                  clear ho7 HR3 HR2
                  go_wp2_with (at_builtin; refine own_int (by rfl) _ _ (by rfl) (by rfl) HO7.out (by rfl) (by omega) ?_)
                  intro g9 cap9 w9 ho9
                  have HR9 : Hid (VInv w1 w9 g (w.heap.size + 1) d n k l x (q + 1) nv fv rr (.slice (some ⟨g7, 0, none⟩) (X.length + 1) cap7) (.slice (some ⟨g9, 0, none⟩) (tq.length + 1) cap9)) := by
                    unfold Hid VInv
                    rw [HAS.out, HTS.out, HF2.out.1, HF2.out.2, HBs.out, HFs.out]
                    exact ho9.two
                  clear ho9 HO7
                  go_wp2
                  go_roundw
                  case rel => exact ⟨q + 1, by omega, by go_num, HR9⟩
                  case measure => simp [intOf]; omega
        · skip
          · obtain rfl : q = n := by omega
            have hS1 : (S1 d x).length = q := by rw [S1_length, HL.out]; rfl
            rw [trow_full hS1, List.take_of_length_le (by omega)] at hR
            have HPn := Lib.hid (part1_next HG.out (by rw [HN.out]; exact HSl.out) HP.out HXL.out)
            have HRow := Lib.hid (rows_next HP.out HXL.out)
            have HFlag : Hid (((addAll l (S1 d x)).take (k + 1)).map (finA d) = (l.take k).map (finA d) ++ [finA d x]) := flags_next (S := S1 d) (finA d) HXL.out
            have hLk : (addAll l (S1 d x))[k]? = some x := by
              obtain ⟨m, hm⟩ := addAll_prefix l (S1 d x)
              rw [hm, List.getElem?_append_left hlt]; exact HXL.out
            have hx1 := HX1.out
            have hn40 := HPn.out.n40
            clear hS1 HP HR
            generalize hrw : (l.take k).map (srow (S1 d) l) = rws at *
            generalize hbs : (l.take k).map (finA d) = bs at *
            have HLen : Hid ((rr.map (·.1)).length < 1099511627776 ∧ bs.length < 17592186044416) := by
              have h1 := congrArg List.length HRR.out
              rw [← hrw, List.length_map, List.length_map, List.length_take] at h1
              have h2 := congrArg List.length hbs
              rw [List.length_map, List.length_take] at h2
              exact ⟨by rw [List.length_map]; omega, by omega⟩
            clear hbs hrw
            generalize hl' : addAll l (S1 d x) = l' at *
            clear hl'
            obtain ⟨Al', cl', hlv, hla⟩ := own_read hR (v := u4) (l := ints l') (by simp)
            obtain ⟨Ar', cr', hrv, _⟩ := own_read hR (v := u6) (l := srow (S1 d) l' x) (by simp)
            rw [ints_length] at hlv
            subst hlv hrv
            obtain ⟨adl, e1, hxb, hxc⟩ := cells_int hla (ints_get hLk)
            subst e1
            have hkL : k < l'.length := (List.getElem?_eq_some_iff.1 hLk).1
            have HLk := Lib.hid hLk
            clear hla hLk hxc hxb
            have HBA := Lib.hid (HD.out.fins.at_ (HG.out.fin_at hx1))
            obtain ⟨adf, eF, hfa, hcf, _⟩ := HBA.out
            subst eF
            have HR3 := Lib.hid (hR.re [2, 0, 1, 3, 4, 5] 6 rfl (by decide))
            obtain ⟨hg2, hgf2⟩ := hR.dcell (g := g) (l := [.int .i64 (q : Int), .int .i64 0, nv, fv]) (j := 2) (by simp) rfl
            rw [HN.out] at hx1
            have e2 : (x : Int) < (m : Int) := by omega
            have e5 : (k : Int) < (l'.length : Int) := by omega
            generalize hr9 : (l'.take (k + 1)).map (srow (S1 d) l') = rws9 at *
            have HR9 := Lib.hid hr9
            generalize hs9 : srow (S1 d) l' x = row at *
            clear hr9 hs9 hR hbi hcf
            go_wp2_with (at_builtin; refine own_row (by rfl) _ _ (by rfl) (by rfl) HR3.out (by rfl) (by rfl) HLen.out.1 ?_)
            intro g8 cap8 w8 ho8
            have HB9 : Hid (Build w1 (w8.setCell ⟨g, 2, none⟩ (.slice (some ⟨g8, 0, none⟩) (rr.length + 1) cap8)) g (eDfa (w.heap.size + 1) zero4 :: [eInts (.slice (some adl) l'.length cl') (ints l')]) (q : Int) 0 (rws ++ [row]) bs (.slice (some ⟨g8, 0, none⟩) (rr.length + 1) cap8) fv (rr ++ [(.slice Ar' row.length cr', row)])) :=
              build_row HRR.out (ho8.re [0, 2, 3, 4, 5, 1] 6 rfl (by decide)) rfl
            obtain ⟨hk8, hf8⟩ := ho8.dcell (g := g) (l := [.int .i64 (q : Int), .int .i64 0, nv, fv]) (j := 2) (by simp) rfl
            rw [← HRow.out] at HB9
            clear ho8 hg2 hgf2 HR3 HRow hc0 HXi
            go_wp2_with fail
            generalize hw9 : w8.setCell ⟨g, 2, none⟩ (.slice (some ⟨g8, 0, none⟩) (rr.length + 1) cap8) = w9 at *
            clear hw9 hk8 hf8
            generalize (Value.slice (some ⟨g8, 0, none⟩) (rr.length + 1) cap8) = nv9 at *
            generalize (rr ++ [(Value.slice Ar' row.length cr', row)]) = rr9 at *
            have HO5 := Lib.hid HB9.out.2.two
            generalize finA d x = b at *
            have HK : Hid (∀ W es fs, Own w1 W es fs → eInts (.slice (some adl) l'.length cl') (ints l') ∈ es ++ fs ∧ eDfa g [.int .i64 (q : Int), .int .i64 0, nv9, fv] ∈ es ++ fs → W.cell? ⟨g, 3, none⟩ = some fv ∧ W.cell? ⟨w.heap.size, 3, none⟩ = some (.slice (some adf) m cf) ∧ W.cell? (adl.add k) = some (.int .i64 (x : Int)) ∧ W.cell? (adf.add x) = some (.bool b)) := fun W es fs hW hm => by
              obtain ⟨hm, hm2⟩ := hm
              obtain ⟨ad1, e1, _, c1, _⟩ := HBA.out
              cases e1
              obtain ⟨A7, c7, hv7, hA7⟩ := own_read hW hm
              obtain ⟨adl7, e7, _, hc7⟩ := cells_int hA7 (ints_get HLk.out)
              subst e7
              simp only [Value.slice.injEq, Option.some.injEq] at hv7
              obtain ⟨rfl, _⟩ := hv7
              exact ⟨(hW.dcell hm2 rfl).1, (HX.out.on hW.below).c3, hc7, (hW.below.cell (by rw [Wd.block_add]; assumption)).trans c1⟩
            refine wp_region_Z (fun W => W.cell? ⟨g, 3, none⟩ = some fv ∧ W.cell? ⟨w.heap.size, 3, none⟩ = some (.slice (some adf) m cf) ∧ W.cell? (adl.add k) = some (.int .i64 (x : Int)) ∧ W.cell? (adf.add x) = some (.bool b)) 13 (by kernel_rfl) (HK.out _ _ _ (HB9.out.2.on (by go_grown)) (by simp)) (fun hHeld => ?_)
            refine wpZ_take (i := 0) (v := ?_) rfl (by kernel_rfl) (by kernel_rfl) (by kernel_rfl) (by kernel_rfl) (fun _ _ _ h => h) (Or.inl ⟨by rfl, ?_⟩) hHeld ?_
            rotate_left
            · (go_light; intro w9 hSw; (try dsimp only at hSw); go_simp; try with_reducible rfl)
            try simp only [Act.put, List.setIfInBounds_toArray, List.set_cons_zero, List.set_cons_succ]
            refine wpZ_take (i := 1) (v := ?_) rfl (by kernel_rfl) (by kernel_rfl) (by kernel_rfl) (by kernel_rfl) (fun _ _ _ h => h) (Or.inl ⟨by rfl, ?_⟩) hHeld ?_
            rotate_left
            · (go_light; intro w9 hSw; (try dsimp only at hSw); go_simp; try with_reducible rfl)
            try simp only [Act.put, List.setIfInBounds_toArray, List.set_cons_zero, List.set_cons_succ]
            refine wpZ_take (i := 2) (v := ?_) rfl (by kernel_rfl) (by kernel_rfl) (by kernel_rfl) (by kernel_rfl) (fun _ _ _ h => h) (Or.inl ⟨by rfl, ?_⟩) hHeld ?_
            rotate_left
            · (go_light; intro w9 hSw; (try dsimp only at hSw); go_simp; try with_reducible rfl)
            try simp only [Act.put, List.setIfInBounds_toArray, List.set_cons_zero, List.set_cons_succ]
            refine wpZ_take (i := 3) (v := ?_) rfl (by kernel_rfl) (by kernel_rfl) (by kernel_rfl) (by kernel_rfl) (fun _ _ _ h => h) (Or.inl ⟨by rfl, ?_⟩) hHeld ?_
            rotate_left
            · (go_light; intro w9 hSw; (try dsimp only at hSw); go_simp; try with_reducible rfl)
            try simp only [Act.put, List.setIfInBounds_toArray, List.set_cons_zero, List.set_cons_succ]
            refine wpZ_take (i := 4) (v := ?_) rfl (by kernel_rfl) (by kernel_rfl) (by kernel_rfl) (by kernel_rfl) (fun _ _ _ h => h) (Or.inl ⟨by rfl, ?_⟩) hHeld ?_
            rotate_left
            · (go_light; intro w9 hSw; (try dsimp only at hSw); go_simp; try with_reducible rfl)
            try simp only [Act.put, List.setIfInBounds_toArray, List.set_cons_zero, List.set_cons_succ]
            refine wpZ_take (i := 5) (v := ?_) rfl (by kernel_rfl) (by kernel_rfl) (by kernel_rfl) (by kernel_rfl) (fun _ _ _ h => h) (Or.inl ⟨by rfl, ?_⟩) hHeld ?_
            rotate_left
            · (go_light; intro w9 hSw; (try dsimp only at hSw); go_simp; try with_reducible rfl)
            try simp only [Act.put, List.setIfInBounds_toArray, List.set_cons_zero, List.set_cons_succ]
            refine wpZ_take (i := 6) (v := ?_) rfl (by kernel_rfl) (by kernel_rfl) (by kernel_rfl) (by kernel_rfl) (fun _ _ _ h => h) (Or.inl ⟨by rfl, ?_⟩) hHeld ?_
            rotate_left
            · (go_light; intro w9 hSw; (try dsimp only at hSw); go_simp; try with_reducible rfl)
            try simp only [Act.put, List.setIfInBounds_toArray, List.set_cons_zero, List.set_cons_succ]
            refine wpZ_take (i := 7) (v := ?_) rfl (by kernel_rfl) (by kernel_rfl) (by kernel_rfl) (by kernel_rfl) (fun _ _ _ h => h) (Or.inl ⟨by rfl, ?_⟩) hHeld ?_
            rotate_left
            · (go_light; intro w9 hSw; (try dsimp only at hSw); go_simp; try with_reducible rfl)
            try simp only [Act.put, List.setIfInBounds_toArray, List.set_cons_zero, List.set_cons_succ]
            refine wpZ_take (i := 8) (v := ?_) rfl (by kernel_rfl) (by kernel_rfl) (by kernel_rfl) (by kernel_rfl) (fun _ _ _ h => h) (Or.inl ⟨by rfl, ?_⟩) hHeld ?_
            rotate_left
            · (go_light; intro w9 hSw; (try dsimp only at hSw); go_simp; try with_reducible rfl)
            try simp only [Act.put, List.setIfInBounds_toArray, List.set_cons_zero, List.set_cons_succ]
            refine wpZ_take (i := 9) (v := ?_) rfl (by kernel_rfl) (by kernel_rfl) (by kernel_rfl) (by kernel_rfl) (fun _ _ _ h => h) (Or.inl ⟨by rfl, ?_⟩) hHeld ?_
            rotate_left
            · (go_light; intro w9 hSw; (try dsimp only at hSw); go_simp; try with_reducible rfl)
            try simp only [Act.put, List.setIfInBounds_toArray, List.set_cons_zero, List.set_cons_succ]
            refine wpZ_one (i := 10) rfl (by kernel_rfl) (fun K hK => ?_)
            go_simp
            refine hK.out _ _ (fun _ => HK.out _ _ _ (HB9.out.2.on (by go_grown)) (by simp)) (fun hHeld9 => ?_)
            replace hHeld := hHeld9 (by decide)
            clear hHeld9
            clear hK K
            try simp only [Act.put, List.setIfInBounds_toArray, List.set_cons_zero, List.set_cons_succ]
            refine wpZ_one (i := 11) rfl (by kernel_rfl) (fun K hK => ?_)
            refine step_own_bool (by rfl) _ _ (by rfl) (by rfl) (HO5.out.on (Below.refl _ _).drew) (by rfl) HLen.out.2 ?_
            intro g6 cap6 w6 ho6
            refine hK.out _ _ (fun _ => HK.out _ _ _ ho6.two (by simp)) (fun hHeld9 => ?_)
            replace hHeld := hHeld9 (by decide)
            clear hHeld9
            clear hK K
            try simp only [Act.put, List.setIfInBounds_toArray, List.set_cons_zero, List.set_cons_succ]
            refine wpZ_take (i := 12) (v := ?_) rfl (by kernel_rfl) (by kernel_rfl) (by kernel_rfl) (by kernel_rfl) (fun _ _ _ h => h) (Or.inl ⟨by rfl, ?_⟩) hHeld ?_
            rotate_left
            · (go_light; intro w9 hSw; (try dsimp only at hSw); go_simp; try with_reducible rfl)
            try simp only [Act.put, List.setIfInBounds_toArray, List.set_cons_zero, List.set_cons_succ]
            refine wpZ_one (i := 13) rfl (by kernel_rfl) (fun K hK => ?_)
            have hk4 := (ho6.dcell (g := g) (l := [.int .i64 (q : Int), .int .i64 0, nv9, fv]) (j := 3) (by simp) rfl).2
            go_simp
            refine hK.out _ _ (fun k => absurd rfl k) (fun _ => ?_)
            clear hK K
            try simp only [Act.put, List.setIfInBounds_toArray, List.set_cons_zero, List.set_cons_succ]
            refine wpZ_done (by kernel_rfl) ?_ _
            have HB6 : Hid (UInv w1 (w6.setCell ⟨g, 3, none⟩ (.slice (some ⟨g6, 0, none⟩) (bs.length + 1) cap6)) g (w.heap.size + 1) d p q (k + 1) (.slice (some adl) l'.length cl')) := by
              have HBf := build_flag HB9.out.1 ho6 rfl
              refine ⟨l', nv9, .slice (some ⟨g6, 0, none⟩) (bs.length + 1) cap6, rr9, HPn.out, ?_⟩
              rw [HFlag.out, HR9.out]
              exact HBf
            clear HO5 ho6 HB9 HK hk4 hHeld HBA
            go_wp2
            go_roundw
            case rel => exact ⟨k + 1, by omega, by go_num, HB6⟩
            case measure => simp [intOf]; omega
    · as_aux_lemma =>
        obtain rfl : k = l.length := by omega
        have HRs : Hid (rset d p = l) := by unfold Hid rset; rw [HP.out.stop (Nat.le_refl _)]; rfl
        rw [List.take_length] at HBd
        have HSm := Lib.hid (srow_small (S1 d) l (by omega))
        rw [HRs.out, HL.out] at HTr
        clear HP HRs
        generalize l.map (srow (S1 d) l) = rows at *
        generalize l.map (finA d) = bs at *
        obtain ⟨A2, c2, F2, cf2, e1, e2⟩ := HBd.out.form
        obtain ⟨hg0, hg1, hg2, hg3⟩ := HBd.out.str
        obtain ⟨hr0, hf0⟩ := HBd.out.res (j := 0) (by omega)
        obtain ⟨hr1, hf1⟩ := HBd.out.res (j := 1) (by omega)
        obtain ⟨hr2, hf2⟩ := HBd.out.res (j := 2) (by omega)
        obtain ⟨hr3, hf3⟩ := HBd.out.res (j := 3) (by omega)
        subst e1 e2
        have HEnd := Lib.hid (build_end HBd.out HSm.out ⟨by omega, by omega⟩ ⟨by omega, by omega⟩ rfl)
        generalize rows.length = nr at *
        generalize bs.length = nb' at *
        go_wp2
        obtain ⟨k1, k3, k4, k5, k6⟩ := HEnd.out
        exact bodyPost_ret (res_one rfl _ rfl k3 k4 k5 k6) rfl ⟨_, rfl, by rw [HTr.out]; exact k1.base HB.out⟩
end Go.Proofs.YtinehjfanabegaaDoor.Rc
