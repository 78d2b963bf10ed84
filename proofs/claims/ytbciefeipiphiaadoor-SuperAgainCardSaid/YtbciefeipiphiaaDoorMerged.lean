/- The walk of package small's merged. -/
import Derived.Test.YtbciefeipiphiaaDoorClasses
import Derived.Test.YtbciefeipiphiaaDoorTrim
namespace Go.Proofs.YtbciefeipiphiaaDoor.Mp
open Go.RowKit Go.IntWalk Go.Proofs.YtbciefeipiphiaaDoor.Wd Go.Proofs.YtbciefeipiphiaaDoor.Wo Go.Proofs.YtbciefeipiphiaaDoor.Df Go.Proofs.YtbciefeipiphiaaDoor.Rc Go.Proofs.YtbciefeipiphiaaDoor.Sm

/-- A row of the merged one, as far as letter c. -/
def rowG (f : Nat → Nat) (ts : List Nat) (n c : Nat) : List Int := (ts.take c).map (fun t => ((f t : Nat) : Int)) ++ List.replicate (n - c) 0
theorem rowG_zero (f : Nat → Nat) (ts : List Nat) (n : Nat) : rowG f ts n 0 = List.replicate n 0 := by simp [rowG]
theorem rowG_length {f : Nat → Nat} {ts : List Nat} {n c : Nat} (h : ts.length = n) (hc : c ≤ n) : (rowG f ts n c).length = n := by
  unfold rowG; rw [List.length_append, List.length_map, List.length_take, List.length_replicate]; omega
theorem rowG_step {f : Nat → Nat} {ts : List Nat} {n c t : Nat} (h : ts[c]? = some t) (hn : c < n) : (rowG f ts n c).set c ((f t : Nat) : Int) = rowG f ts n (c + 1) := by
  obtain ⟨hc, ht⟩ := List.getElem?_eq_some_iff.1 h
  unfold rowG
  rw [List.set_append_right _ _ (by rw [List.length_map, List.length_take]; omega), show n - c = (n - (c + 1)) + 1 by omega, List.replicate_succ, List.length_map, List.length_take, show c - min c ts.length = 0 by omega, List.set_cons_zero]
  rw [← List.take_append_getElem hc, List.map_append, ht]
  simp
theorem rowG_full {f : Nat → Nat} {ts : List Nat} {n : Nat} (h : ts.length = n) : rowG f ts n n = ts.map fun t => ((f t : Nat) : Int) := by
  unfold rowG
  rw [List.take_of_length_le (by omega), Nat.sub_self, List.replicate_zero, List.append_nil]
def rowM (d : Aut) (cl : List Nat) (q : Nat) : List Int := (S1 d q).map fun t => ((atC cl t : Nat) : Int)
/-- The merged one under way. -/
def PM (w1 wr : World) (g : Nat) (d : Aut) (cl : List Nat) (n gr k : Nat) : Prop :=
  ∃ nv fv rr, Build w1 wr g [eDfa gr zero4] (n : Int) 0 ((firsts d k).map (rowM d cl)) ((firsts d k).map (finA d)) nv fv rr
def RM (w1 wi : World) (g : Nat) (d : Aut) (cl : List Nat) (n gr k gw : Nat) (nv fv : Value) (rr : List (Value × List Int)) (c : Nat) : Prop :=
  Own w1 wi [eInts (rV gw n) (rowG (atC cl) (S1 d k) n c), eRows nv (rr.map (·.1)), eBools fv ((firsts d k).map (finA d)), eDfa g [.int .i64 (n : Int), .int .i64 0, nv, fv], eDfa gr zero4] (eEach rr)
theorem rowM_small {d : Aut} {cl : List Nat} (h : ∀ x, atC cl x ≤ 40) (k : Nat) : ∀ r ∈ (firsts d k).map (rowM d cl), ∀ x ∈ r, Small x := fun r hr x hx => by
  obtain ⟨q, _, rfl⟩ := List.mem_map.1 hr
  obtain ⟨t, _, rfl⟩ := List.mem_map.1 hx
  have := h t
  exact ⟨by omega, by omega⟩
theorem fine_le {d : Aut} {cl : List Nat} (h : Sm.Fine d cl) (g : Df.Good d) (x : Nat) : atC cl x ≤ 40 := by
  by_cases hx : x < d.next.length
  · rw [h.num g hx]
    have := firsts_length d (kin d d x)
    have := (stand_spec g hx).1
    have := g.n40
    omega
  · unfold atC
    rw [List.getElem?_eq_none (by have := h.len; omega)]
    simp
/-- A function that returns an automaton out of its own block. -/
theorem results_dfa1 {fn : Func} {t : Tmp} (h : fn.results = #[.cell t 25]) (tmps : Array Value) {w : World} {g : Nat} {v0 v1 v2 v3 : Value} (hp : tmps.getD t undef = .pointer (some ⟨g, 0, none⟩))
    (c0 : w.cell? ⟨g, 0, none⟩ = some v0) (c1 : w.cell? ⟨g, 1, none⟩ = some v1) (c2 : w.cell? ⟨g, 2, none⟩ = some v2) (c3 : w.cell? ⟨g, 3, none⟩ = some v3) :
    (results fn tmps).run Tryd.prog w = .ok (.agg #[v0, v1, v2, v3]) w := by
  have hp' : tmps[t]?.getD undef = .pointer (some ⟨g, 0, none⟩) := by simpa using hp
  simp [results, h, hp', go_sem, c0, c1, c2, c3]
set_option linter.unusedSimpArgs false in
set_option maxRecDepth 100000 in
set_option maxHeartbeats 4000000 in
theorem merged_any (v : Value) (d : Aut) (cl : List Nat) (w : World) (h : DfaAt w w.heap.size v d) (hg : Df.Good d) (hf : Sm.Fine d cl) :
    Calls Tryd.prog 56 #[v, .agg (clsV cl).toArray] w fun e w' => Hid (∃ x, e = .returned x ∧ DfaOwn w w' x (mergedN d cl d.next.length)) := by
  obtain ⟨L, s0, A, c, F, cf, rfl, h⟩ := h
  obtain ⟨w1, hw1, hB1, hX, hd1⟩ := box_dfa w h
  have hs1 : w1.heap.size = w.heap.size + 1 := by rw [hw1]; simp
  have h40 := hg.n40
  have hcl := hf.len
  have hlen : cl.length ≤ 40 := by omega
  obtain ⟨w2, hw2⟩ : ∃ w2, w2 = w1.alloc (.cells (clsV cl).toArray 90) := ⟨_, rfl⟩
  have ho2 : Own w1 w2 [eCls w1.heap.size cl] [] := by
    rw [hw2]
    exact (own_start w1).lit 90 40 1 (clsV cl).toArray (by simp [clsV_length hlen]) (by simp [maxLen])
  have hs2 : w2.heap.size = w.heap.size + 1 + 1 := by rw [hw2]; simp [hs1]
  have HB := Lib.hid hB1
  have HO2 := Lib.hid ho2
  have HX := Lib.hid (hX.on ho2.below)
  have HD := Lib.hid (hd1.on ho2.below)
  have HG := Lib.hid hg
  have HF := Lib.hid hf
  have HW1 : Hid (w2 = (w.alloc (.cells #[.int .i64 L, .int .i64 s0, .slice A d.next.length c, .slice F d.fin.length cf] 25)).alloc (.cells (clsV cl).toArray 90)) := by rw [Hid, hw2, hw1]
  have heL := h.eL
  obtain ⟨n, hn⟩ := Int.eq_ofNat_of_zero_le (show 0 ≤ L by have := hg.l1; omega)
  subst hn
  have hn6 : n ≤ 6 := by have := hg.l6; omega
  have HL : Hid (d.L = (n : Int)) := heL
  have HCl := Lib.hid hcl
  have hres := (own_start w2).dfa (.int .i64 0) (.int .i64 0) (.slice none 0 0) (.slice none 0 0)
  rw [hs2] at hres
  have hX2 := HX.out.on hres.below
  have hc0 := hX2.c0
  have hc2 := hX2.c2
  have HR := Lib.hid hres
  have hmN : d.next.length ≤ d.fin.length := Nat.le_of_eq hg.fin.symm
  rw [hs1] at ho2 HO2
  clear h hd1 hw1 hX hB1 hg hf heL hw2 ho2 hcl hlen hs1 hres hX2
  generalize d.fin.length = m at *
  generalize hN : d.next.length = N at *
  have HN := Lib.hid hN
  clear hN
  obtain ⟨cv, hcv⟩ : ∃ cv, cv = (clsV cl).toArray := ⟨_, rfl⟩
  rw [← hcv] at HW1
  rw [← hcv]
  clear hcv
  go_enter Tryd.func56, Tryd.ntmps56
  go_wp2_with fail
  rw [← HW1.out]
  clear HW1 hc0 hc2
  have HS0 : Hid (PM w2 ((w2.alloc (.cells #[.int .i64 0, .int .i64 0, .slice none 0 0, .slice none 0 0] 25)).alloc (.cells #[.int .i64 (n : Int), .int .i64 0, .slice none 0 0, .slice none 0 0] 25)) (w.heap.size + 1 + 1 + 1) d cl n (w.heap.size + 1 + 1) 0) := by
    have h := HR.out.dfa (.int .i64 (n : Int)) (.int .i64 0) (.slice none 0 0) (.slice none 0 0)
    have e : (w2.alloc (.cells #[.int .i64 0, .int .i64 0, .slice none 0 0, .slice none 0 0] 25)).heap.size = w.heap.size + 1 + 1 + 1 := by simp [hs2]
    rw [e] at h
    exact ⟨.slice none 0 0, .slice none 0 0, [], rfl, ((h.nil 4 1).nil 27 1)⟩
  generalize ((w2.alloc (.cells #[.int .i64 0, .int .i64 0, .slice none 0 0, .slice none 0 0] 25)).alloc (.cells #[.int .i64 (n : Int), .int .i64 0, .slice none 0 0, .slice none 0 0] 25)) = w3 at *
  obtain ⟨g, hg⟩ : ∃ g, g = w.heap.size + 1 + 1 + 1 := ⟨_, rfl⟩
  obtain ⟨gr, hgr⟩ : ∃ gr, gr = w.heap.size + 1 + 1 := ⟨_, rfl⟩
  rw [← hg, ← hgr] at HS0
  rw [← hg, ← hgr]
  clear hg hgr hs2 HR
  go_loopw [17] (fun i wr => ∃ (k : Nat), k ≤ N ∧ i = .int .i64 k ∧ Hid (PM w2 wr g d cl n gr k)) (fun i _ => N - (intOf i).toNat)
  case atStart => exact ⟨0, by omega, rfl, HS0⟩
  case round =>
    clear HS0
    obtain ⟨k, hk, rfl, HS⟩ := hrel
    obtain ⟨nv, fv, rr, hrr, hown⟩ := HS.out
    have HRR := Lib.hid hrr
    have HO := Lib.hid hown
    have hbw := hown.below
    clear hrr hown
    by_cases hlt : k < N
    · as_aux_lemma =>
      have hx1 : k < d.next.length := by have := HN.out; omega
      obtain ⟨ad, A', c', e0, hadb, hcell0, hrc, hcc, hri⟩ := HD.out.rows k _ (List.getElem?_eq_getElem hx1)
      subst e0
      have hcell1 := (hbw.cell (p := ad.add k) (by rw [Wd.block_add]; exact hadb)).trans hcell0
      have hrl := HG.out.row _ (List.getElem_mem hx1)
      have HRow : Hid (d.next[k]? = some d.next[k]) := List.getElem?_eq_getElem hx1
      have HRI := Lib.hid hri
      have HX1 := Lib.hid hx1
      have hkc := (hbw.cell (p := ⟨w.heap.size + 1, k, none⟩) (HO2.out.lt (ad := ⟨w.heap.size + 1, 0, none⟩) (t := 90) (sz := 40) (n := 1) (cap := 1) (xs := clsV cl) (by simp [eCls])).2).trans (own_cls_at HO2.out (g := w.heap.size + 1) (l := cl) (by simp) (by rw [HCl.out]; exact hlt))
      have HBd : Hid (Build w2 wr g [eDfa gr zero4] (n : Int) 0 ((firsts d k).map (rowM d cl)) ((firsts d k).map (finA d)) nv fv rr) := ⟨HRR.out, HO.out⟩
      obtain ⟨A2, c2, F2, cf2, e1, e2⟩ := HBd.out.form
      rw [List.length_map] at e1 e2
      have hg2 := HBd.out.c2.1
      have hskip := HF.out.skip HG.out hx1
      have hfl := firsts_length d k
      have e3 : (k : Int) < (N : Int) := by omega
      have e4 : (k : Int) < 40 := by omega
      have hrn : (d.next[k]).length = n := by have := HL.out; omega
      clear hrl hri hcell0 hrc hcc
      generalize d.next[k] = r0 at *
      clear hx1
      by_cases hkk : kin d d k = k
      · as_aux_lemma =>
        have hns : ¬ (atC cl k : Int) < ((firsts d k).length : Int) := fun q => (hskip.1 (by omega)) hkk
        have HFs : Hid (firsts d (k + 1) = firsts d k ++ [k]) := by rw [Hid, firsts_succ, if_pos hkk]
        subst e1 e2
        clear hskip hkk HS
        generalize atC cl k = v1 at *
        generalize (firsts d k).length = fl at *
        go_wp2_with fail
        go_region
        clear hg2 hkc hcell1
        have HB1 := Lib.hid (HBd.out.on (Below.refl _ _).drew)
        have hbw := HB1.out.2.below
        clear HBd
        generalize wr.drew = wb at *
        have hc0 := (HX.out.on hbw).c0
        go_wp2_with (at_make; refine mk_ints rfl _ _ rfl n rfl rfl (by omega) ?_)
        intro w6 hm6
        have HR0 : Hid (RM w2 w6 g d cl n gr k wb.heap.size (.slice A2 fl c2) (.slice F2 fl cf2) rr 0) := by
          have h := HB1.out.2.join (Own.of_nums hm6)
          unfold Hid RM
          rw [rowG_zero]
          exact h
        clear hm6 hc0 hbw HB1 HO
        generalize wb.heap.size = gw at *
        go_wp2
        go_loopw [34] (fun i wi => ∃ (q : Nat), q ≤ n ∧ i = .int .i64 q ∧ Hid (RM w2 wi g d cl n gr k gw (.slice A2 fl c2) (.slice F2 fl cf2) rr q)) (fun i _ => n - (intOf i).toNat)
        case atStart => exact ⟨0, by omega, rfl, HR0⟩
        case round =>
          clear HR0
          obtain ⟨q, hq, rfl, HR⟩ := hrel
          have hS1 : (S1 d k).length = n := by rw [S1_length]; have := HL.out; omega
          have hown := HR.out
          unfold RM at hown
          have hbi := hown.below
          by_cases hqn : q < n
          · as_aux_lemma =>
            obtain ⟨r1, hr1, _, hr3, hr4, hr5⟩ := HG.out.at_ HX1.out (a := q) (by rw [HL.out]; omega)
            obtain rfl := Option.some.inj (HRow.out.symm.trans hr1)
            obtain ⟨ar, e0, k1, k2, _⟩ := (HRI.out.on hbi).get hr4
            subst e0
            rw [HN.out] at hr5
            have hst := S1_get d k (c := q) (by rw [HL.out]; omega)
            have hkc := (hbi.cell (p := ⟨w.heap.size + 1, Df.step d k q, none⟩) (HO2.out.lt (ad := ⟨w.heap.size + 1, 0, none⟩) (t := 90) (sz := 40) (n := 1) (cap := 1) (xs := clsV cl) (by simp [eCls])).2).trans (own_cls_at HO2.out (g := w.heap.size + 1) (l := cl) (by simp) (by rw [HCl.out]; exact hr5))
            obtain ⟨old, hold⟩ : ∃ old, (rowG (atC cl) (S1 d k) n q)[q]? = some old := ⟨_, List.getElem?_eq_getElem (by rw [rowG_length hS1 (by omega)]; omega)⟩
            obtain ⟨hw1, hw2⟩ := own_ints_cell hown (List.mem_append_left _ List.mem_cons_self) (rowG_length hS1 (by omega)) hold
            have HN1 : Hid (RM w2 (wr.setCell ⟨gw, q, none⟩ (.int .i64 ((atC cl (Df.step d k q) : Nat) : Int))) g d cl n gr k gw (.slice A2 fl c2) (.slice F2 fl cf2) rr (q + 1)) := by
              unfold Hid RM
              rw [← rowG_step hst (by omega)]
              exact own_ints_set hown (rowG_length hS1 (by omega)) q _
            have e5 : (Df.step d k q : Int) < 40 := by omega
            have e6 : (q : Int) < (n : Int) := by omega
            clear hr1 hr3 hr4 hr5 hst hold hown HR hS1 hbi
            generalize atC cl (Df.step d k q) = v9 at *
            generalize Df.step d k q = t at *
            go_wp2
            go_roundw
            case rel => exact ⟨q + 1, by omega, by go_num, HN1⟩
            case measure => simp [intOf]; omega
          · as_aux_lemma =>
            obtain rfl : n = q := by omega
            rw [rowG_full hS1] at hown
            have HO2' := Lib.hid hown.two
            have HLen : Hid ((rr.map (·.1)).length < 1099511627776 ∧ ((firsts d k).map (finA d)).length < 17592186044416) := by
              have h1 := congrArg List.length HRR.out
              have h2 := firsts_length d k
              rw [List.length_map, List.length_map] at h1
              exact ⟨by rw [List.length_map]; omega, by rw [List.length_map]; omega⟩
            obtain ⟨hg2, hgf2⟩ := HO2'.out.dcell (g := g) (l := [.int .i64 (n : Int), .int .i64 0, .slice A2 fl c2, .slice F2 fl cf2]) (j := 2) (by simp) rfl
            have HRowM : Hid ((firsts d (k + 1)).map (rowM d cl) = (firsts d k).map (rowM d cl) ++ [rowM d cl k]) := by rw [Hid, HFs.out, List.map_append]; rfl
            have HFlag : Hid ((firsts d (k + 1)).map (finA d) = (firsts d k).map (finA d) ++ [finA d k]) := by rw [Hid, HFs.out, List.map_append]; rfl
            have hrm : (S1 d k).map (fun t => ((atC cl t : Nat) : Int)) = rowM d cl k := rfl
            rw [hrm] at HO2'
            clear hown HR hS1 hbi hrm
            generalize (firsts d k).map (rowM d cl) = rws at *
            generalize (firsts d k).map (finA d) = bs at *
            generalize hrl : rowM d cl k = rowx at *
            clear hrl
            go_wp2_with (at_builtin; refine own_row (by rfl) _ _ (by rfl) (by rfl) HO2'.out (by rfl) (by rfl) HLen.out.1 ?_)
            intro g8 cap8 w8 ho8
            have HB9 : Hid (Build w2 (w8.setCell ⟨g, 2, none⟩ (.slice (some ⟨g8, 0, none⟩) (rr.length + 1) cap8)) g [eDfa gr zero4] (n : Int) 0 (rws ++ [rowx]) bs (.slice (some ⟨g8, 0, none⟩) (rr.length + 1) cap8) (.slice F2 fl cf2) (rr ++ [(rV gw n, rowx)])) := by
              exact build_row HRR.out ho8 rfl
            obtain ⟨hk8, hf8⟩ := ho8.dcell (g := g) (l := [.int .i64 (n : Int), .int .i64 0, .slice A2 fl c2, .slice F2 fl cf2]) (j := 2) (by simp) rfl
            rw [← HRowM.out] at HB9
            clear ho8 hg2 hgf2 HO2' HRowM
            go_wp2_with fail
            generalize hw9 : w8.setCell ⟨g, 2, none⟩ (.slice (some ⟨g8, 0, none⟩) (rr.length + 1) cap8) = w9 at *
            clear hw9 hk8 hf8
            have hbw := HB9.out.2.below
            have HBA := Lib.hid (HD.out.fins.at_ (HG.out.fin_at HX1.out))
            obtain ⟨adf, eF, hfa, hcf, _⟩ := (HD.out.on hbw).fins.at_ (HG.out.fin_at HX1.out)
            subst eF
            have hX9 := HX.out.on hbw
            have hc3 := hX9.c3
            have hc5l := hX9.lt
            have hc3' := HB9.out.c3.1
            have hc3l := HB9.out.lt.2
            have e7 : (k : Int) < (m : Int) := by omega
            have HO5 := Lib.hid HB9.out.2.two
            generalize (Value.slice (some ⟨g8, 0, none⟩) (rr.length + 1) cap8) = nv9 at *
            generalize (rr ++ [(rV gw n, rowx)]) = rr9 at *
            generalize finA d k = b at *
            generalize (Value.slice F2 fl cf2) = fv at *
            have HK : Hid (∀ W es fs, Own w2 W es fs → eDfa g [.int .i64 (n : Int), .int .i64 0, nv9, fv] ∈ es ++ fs → W.cell? ⟨g, 3, none⟩ = some fv ∧ W.cell? ⟨w.heap.size, 3, none⟩ = some (.slice (some adf) m cf) ∧ W.cell? (adf.add k) = some (.bool b)) := fun W es fs hW hm2 => by
              obtain ⟨ad1, e1, _, c1, _⟩ := HBA.out
              cases e1
              exact ⟨(hW.dcell hm2 rfl).1, (HX.out.on hW.below).c3, (hW.below.cell (by rw [Wd.block_add]; assumption)).trans c1⟩
            clear hbw hX9 hc3 hc5l hc3' hc3l hcf
            refine wp_region_Z (fun W => W.cell? ⟨g, 3, none⟩ = some fv ∧ W.cell? ⟨w.heap.size, 3, none⟩ = some (.slice (some adf) m cf) ∧ W.cell? (adf.add k) = some (.bool b)) 10 (by kernel_rfl) (HK.out _ _ _ (HB9.out.2.on (by go_grown)) (by simp)) (fun hHeld => ?_)
            refine wpZ_take (i := 0) (v := ?_) rfl (by kernel_rfl) (by kernel_rfl) (by kernel_rfl) (by kernel_rfl) (fun _ _ _ h => h) (Or.inl ⟨by rfl, ?_⟩) hHeld ?_
            rotate_left
            · (go_light; intro w9 hSw; (try dsimp only at hSw); go_simp; try with_reducible rfl)
            try simp only [Act.put, List.setIfInBounds_toArray, List.set_cons_zero, List.set_cons_succ]
            refine wpZ_take (i := 1) (v := ?_) rfl (by kernel_rfl) (by kernel_rfl) (by kernel_rfl) (by kernel_rfl) (fun _ _ _ h => h) (Or.inl ⟨by rfl, ?_⟩) hHeld ?_
            rotate_left
            · (go_light; intro w9 hSw; (try dsimp only at hSw); go_simp; try with_reducible rfl)
            try simp only [Act.put, List.setIfInBounds_toArray, List.set_cons_zero, List.set_cons_succ]
            refine wpZ_take (i := 2) (v := ?_) rfl (by kernel_rfl) (by kernel_rfl) (by kernel_rfl) (by kernel_rfl) (fun _ _ _ h => h) (Or.inl ⟨by rfl, ?_⟩) hHeld ?_
            rotate_left
            · (go_light; intro w9 hSw; (try dsimp only at hSw); go_simp; try with_reducible rfl)
            try simp only [Act.put, List.setIfInBounds_toArray, List.set_cons_zero, List.set_cons_succ]
            refine wpZ_take (i := 3) (v := ?_) rfl (by kernel_rfl) (by kernel_rfl) (by kernel_rfl) (by kernel_rfl) (fun _ _ _ h => h) (Or.inl ⟨by rfl, ?_⟩) hHeld ?_
            rotate_left
            · (go_light; intro w9 hSw; (try dsimp only at hSw); go_simp; try with_reducible rfl)
            try simp only [Act.put, List.setIfInBounds_toArray, List.set_cons_zero, List.set_cons_succ]
            refine wpZ_take (i := 4) (v := ?_) rfl (by kernel_rfl) (by kernel_rfl) (by kernel_rfl) (by kernel_rfl) (fun _ _ _ h => h) (Or.inl ⟨by rfl, ?_⟩) hHeld ?_
            rotate_left
            · (go_light; intro w9 hSw; (try dsimp only at hSw); go_simp; try with_reducible rfl)
            try simp only [Act.put, List.setIfInBounds_toArray, List.set_cons_zero, List.set_cons_succ]
            refine wpZ_take (i := 5) (v := ?_) rfl (by kernel_rfl) (by kernel_rfl) (by kernel_rfl) (by kernel_rfl) (fun _ _ _ h => h) (Or.inl ⟨by rfl, ?_⟩) hHeld ?_
            rotate_left
            · (go_light; intro w9 hSw; (try dsimp only at hSw); go_simp; try with_reducible rfl)
            try simp only [Act.put, List.setIfInBounds_toArray, List.set_cons_zero, List.set_cons_succ]
            refine wpZ_take (i := 6) (v := ?_) rfl (by kernel_rfl) (by kernel_rfl) (by kernel_rfl) (by kernel_rfl) (fun _ _ _ h => h) (Or.inl ⟨by rfl, ?_⟩) hHeld ?_
            rotate_left
            · (go_light; intro w9 hSw; (try dsimp only at hSw); go_simp; try with_reducible rfl)
            try simp only [Act.put, List.setIfInBounds_toArray, List.set_cons_zero, List.set_cons_succ]
            refine wpZ_one (i := 7) rfl (by kernel_rfl) (fun K hK => ?_)
            go_simp
            refine hK.out _ _ (fun _ => HK.out _ _ _ (HB9.out.2.on (by go_grown)) (by simp)) (fun hHeld9 => ?_)
            replace hHeld := hHeld9 (by decide)
            clear hHeld9
            clear hK K
            try simp only [Act.put, List.setIfInBounds_toArray, List.set_cons_zero, List.set_cons_succ]
            refine wpZ_one (i := 8) rfl (by kernel_rfl) (fun K hK => ?_)
            refine step_own_bool (by rfl) _ _ (by rfl) (by rfl) (HO5.out.on (Below.refl _ _).drew) (by rfl) HLen.out.2 ?_
            intro g6 cap6 w6 ho6
            refine hK.out _ _ (fun _ => HK.out _ _ _ ho6.two (by simp)) (fun hHeld9 => ?_)
            replace hHeld := hHeld9 (by decide)
            clear hHeld9
            clear hK K
            try simp only [Act.put, List.setIfInBounds_toArray, List.set_cons_zero, List.set_cons_succ]
            refine wpZ_take (i := 9) (v := ?_) rfl (by kernel_rfl) (by kernel_rfl) (by kernel_rfl) (by kernel_rfl) (fun _ _ _ h => h) (Or.inl ⟨by rfl, ?_⟩) hHeld ?_
            rotate_left
            · (go_light; intro w9 hSw; (try dsimp only at hSw); go_simp; try with_reducible rfl)
            try simp only [Act.put, List.setIfInBounds_toArray, List.set_cons_zero, List.set_cons_succ]
            refine wpZ_one (i := 10) rfl (by kernel_rfl) (fun K hK => ?_)
            have hk4 := (ho6.dcell (g := g) (l := [.int .i64 (n : Int), .int .i64 0, nv9, fv]) (j := 3) (by simp) rfl).2
            go_simp
            refine hK.out _ _ (fun k => absurd rfl k) (fun _ => ?_)
            clear hK K
            try simp only [Act.put, List.setIfInBounds_toArray, List.set_cons_zero, List.set_cons_succ]
            refine wpZ_done (by kernel_rfl) ?_ _
            have HB6 : Hid (PM w2 (w6.setCell ⟨g, 3, none⟩ (.slice (some ⟨g6, 0, none⟩) (bs.length + 1) cap6)) g d cl n gr (k + 1)) := by
              have HBf := build_flag HB9.out.1 ho6 rfl
              refine ⟨nv9, .slice (some ⟨g6, 0, none⟩) (bs.length + 1) cap6, rr9, ?_⟩
              rw [HFlag.out]
              exact HBf
            clear HO5 ho6 HB9 HK hk4 hHeld HBA
            go_wp2
            go_roundw
            case rel => exact ⟨k + 1, by omega, by go_num, HB6⟩
            case measure => simp [intOf]; omega
      · as_aux_lemma =>
        have hns : (atC cl k : Int) < ((firsts d k).length : Int) := by have := hskip.2 hkk; omega
        have HN1 : Hid (PM w2 wr.drew g d cl n gr (k + 1)) := by
          have e : firsts d (k + 1) = firsts d k := by rw [firsts_succ, if_neg hkk, List.append_nil]
          unfold Hid PM
          rw [e]
          exact ⟨nv, fv, rr, HBd.out.on (Below.refl _ _).drew⟩
        subst e1 e2
        clear hskip hkk HS HBd HRR HO
        generalize atC cl k = v1 at *
        generalize (firsts d k).length = fl at *
        go_wp2_with fail
        go_region
        clear hg2 hkc hcell1 hbw
        go_wp2
        go_roundw
        case rel => exact ⟨k + 1, by omega, by go_num, HN1⟩
        case measure => simp [intOf]; omega
    · as_aux_lemma =>
      obtain rfl : k = N := by omega
      have HBd : Hid (Build w2 wr g [eDfa gr zero4] (n : Int) 0 ((firsts d k).map (rowM d cl)) ((firsts d k).map (finA d)) nv fv rr) := ⟨HRR.out, HO.out⟩
      have HSm := Lib.hid (rowM_small (d := d) (fine_le HF.out HG.out) k)
      have HMr : Hid (mergedN d cl k = ⟨(n : Int), 0, (firsts d k).map (rowM d cl), (firsts d k).map (finA d)⟩) := by unfold Hid mergedN; rw [HL.out]; rfl
      clear HS HO HRR hbw
      generalize (firsts d k).map (rowM d cl) = rows at *
      generalize (firsts d k).map (finA d) = bs at *
      obtain ⟨A2, c2, F2, cf2, e1, e2⟩ := HBd.out.form
      obtain ⟨hg0, hg1, hg2, hg3⟩ := HBd.out.str
      obtain ⟨hr0, hf0⟩ := HBd.out.res (j := 0) (by omega)
      obtain ⟨hr1, hf1⟩ := HBd.out.res (j := 1) (by omega)
      obtain ⟨hr2, hf2⟩ := HBd.out.res (j := 2) (by omega)
      obtain ⟨hr3, hf3⟩ := HBd.out.res (j := 3) (by omega)
      subst e1 e2
      have HEnd := Lib.hid (build_end HBd.out HSm.out ⟨by omega, by omega⟩ ⟨by omega, by omega⟩ rfl)
      have HBB := Lib.hid (HB.out.trans (HO2.out.below.mono HB.out.size))
      generalize rows.length = nr at *
      generalize bs.length = nb' at *
      go_wp2
      obtain ⟨k1, k3, k4, k5, k6⟩ := HEnd.out
      refine bodyPost_ret (results_dfa1 rfl _ rfl k3 k4 k5 k6) rfl ⟨_, rfl, by rw [HMr.out]; exact k1.base HBB.out⟩
end Go.Proofs.YtbciefeipiphiaaDoor.Mp
