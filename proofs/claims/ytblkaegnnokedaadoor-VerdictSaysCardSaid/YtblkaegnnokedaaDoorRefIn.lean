/- The walk of the document's answer of final states by their distance: stilewardref1's In. -/
import Derived.Test.YtblkaegnnokedaaDoorBoolT
import Derived.Test.YtblkaegnnokedaaDoorFound
import Derived.Test.YtblkaegnnokedaaDoorReachL
import Derived.Test.YtblkaegnnokedaaDoorDfaR
namespace Go.Proofs.YtblkaegnnokedaaDoor.Rc
open Go.RowKit Go.IntWalk Go.Proofs.YtblkaegnnokedaaDoor.Wd Go.Proofs.YtblkaegnnokedaaDoor.Wo Go.Proofs.YtblkaegnnokedaaDoor.Df

/-- By the letters below c. -/
def inTo (d : Aut) (k s c : Nat) : Bool := (List.range c).any fun a => inK d k (Df.step d s a)
theorem inTo_succ (d : Aut) (k s c : Nat) : inTo d k s (c + 1) = (inTo d k s c || inK d k (Df.step d s c)) := by unfold inTo; rw [List.range_succ, List.any_append]; simp
theorem inTo_full (d : Aut) (k s : Nat) : inTo d k s d.L.toNat = inK d (k + 1) s := rfl
def g0 (d : Aut) (s t : Nat) : Bool := if t < s then finA d t else false
def gI (d : Aut) (k s c t : Nat) : Bool := if t < s then inK d (k + 1) t else if t = s then inTo d k s c else false
theorem g0_start (d : Aut) (n : Nat) : bF n (g0 d 0) = List.replicate n false := by
  rw [← bF_false]; exact bF_congr fun t _ => by unfold g0; rw [if_neg (by omega)]
theorem g0_step (d : Aut) (s n : Nat) : (bF n (g0 d s)).set s (finA d s) = bF n (g0 d (s + 1)) := by
  rw [bF_set]
  refine bF_congr fun t _ => ?_
  unfold g0
  by_cases e : t = s
  · subst e; rw [if_pos rfl, if_pos (by omega)]
  · rw [if_neg e]
    by_cases e2 : t < s
    · rw [if_pos e2, if_pos (by omega)]
    · rw [if_neg e2, if_neg (by omega)]
theorem g0_done (d : Aut) (n : Nat) : bF n (g0 d n) = bF n (inK d 0) := bF_congr fun t ht => by unfold g0; rw [if_pos ht]; rfl
theorem gI_start (d : Aut) (k n : Nat) : bF n (gI d k 0 0) = List.replicate n false := by
  rw [← bF_false]
  refine bF_congr fun t _ => ?_
  unfold gI
  rw [if_neg (by omega)]
  split
  · rfl
  · rfl
theorem gI_hit {d : Aut} {k s c n : Nat} (h : inK d k (Df.step d s c) = true) : (bF n (gI d k s c)).set s true = bF n (gI d k s (c + 1)) := by
  rw [bF_set]
  refine bF_congr fun t _ => ?_
  unfold gI
  by_cases e : t = s
  · subst e; rw [if_pos rfl, if_neg (by omega), if_pos rfl, inTo_succ, h, Bool.or_true]
  · rw [if_neg e, if_neg e, if_neg e]
theorem gI_miss {d : Aut} {k s c n : Nat} (h : inK d k (Df.step d s c) = false) : bF n (gI d k s c) = bF n (gI d k s (c + 1)) := by
  refine bF_congr fun t _ => ?_
  unfold gI
  rw [inTo_succ, h, Bool.or_false]
theorem gI_row (d : Aut) (k s n : Nat) : bF n (gI d k s d.L.toNat) = bF n (gI d k (s + 1) 0) := by
  refine bF_congr fun t _ => ?_
  unfold gI
  by_cases h1 : t < s
  · rw [if_pos h1, if_pos (by omega)]
  · rw [if_neg h1]
    by_cases h2 : t = s
    · subst h2; rw [if_pos rfl, if_pos (by omega)]; rfl
    · rw [if_neg h2, if_neg (by omega)]
      split
      · rfl
      · rfl
theorem gI_done (d : Aut) (k n : Nat) : bF n (gI d k n 0) = bF n (inK d (k + 1)) := bF_congr fun t ht => by unfold gI; rw [if_pos ht]
/-- The rows so far. -/
def InRows (d : Aut) (N : Nat) (rs : List Br) : Prop := ∀ j r, rs[j]? = some r → r.2 = bF N (inK d j)
theorem inRows_snoc {d : Aut} {N : Nat} {rs : List Br} (h : InRows d N rs) (g : Nat) : InRows d N (rs ++ [(g, bF N (inK d rs.length))]) := fun j r hj => by
  by_cases hl : j < rs.length
  · rw [List.getElem?_append_left hl] at hj; exact h j r hj
  · have h2 := (List.getElem?_eq_some_iff.1 hj).1
    rw [List.length_append, List.length_singleton] at h2
    obtain rfl : j = rs.length := by omega
    rw [List.getElem?_append_right (Nat.le_refl _), Nat.sub_self] at hj
    simp at hj; subst hj; rfl
theorem ownT_on {w0 w w' : World} {N : Nat} {tv : Value} {rs : List Br} {es : List Ent} (h : OwnT w0 w N tv rs es) (hb : Below w.heap.size w w') : OwnT w0 w' N tv rs es := ⟨h.1.on hb, h.2⟩
theorem ownT_snoc {w0 w : World} {N : Nat} {v : Value} {rs : List Br} {g : Nat} {l : List Bool} (hl : l.length = N) (hr : ∀ r ∈ rs, r.2.length = N) (h : Own w0 w (eBRows v (rs.map (brV N) ++ [rowV g N]) :: [eBools (rowV g N) l]) (eEachB N rs)) : OwnT w0 w N v (rs ++ [(g, l)]) [] := by
  refine ⟨?_, fun r hm => ?_⟩
  · rw [List.map_append]
    refine (h.two.fin).weak (fun e he => ?_)
    rw [eEachB_snoc] at he
    rcases List.mem_append.1 he with he | he
    · exact List.mem_cons_of_mem _ he
    · simp at he; subst he; exact List.mem_cons_self
  · rcases List.mem_append.1 hm with hm | hm
    · exact hr r hm
    · simp at hm; subst hm; exact hl
/-- The table under way. -/
def NInv (w1 wr : World) (d : Aut) (N k : Nat) (tv : Value) : Prop := ∃ rs, OwnT w1 wr N tv rs [] ∧ rs.length = k ∧ InRows d N rs
set_option linter.unusedSimpArgs false in
set_option maxRecDepth 100000 in
set_option maxHeartbeats 4000000 in
theorem rin_any (v : Value) (d : Aut) (M : Nat) (w : World) (h : DfaAt w w.heap.size v d) (hg : Df.Good d) (hM : M ≤ 1000) :
    Calls Tryd.prog 33 #[v, .int .i64 M] w fun e w' => Hid (∃ A cap rs, e = .returned (.slice A (M + 1) cap) ∧ rs.length = M + 1 ∧ InRows d d.next.length rs ∧ TabAt w' A d.next.length rs ∧ Below w.heap.size w w') := by
  obtain ⟨L, s, A, c, F, cf, rfl, h⟩ := h
  obtain ⟨w1, hw1, hB1, hX, hd1⟩ := box_dfa w h
  have HB := Lib.hid hB1
  have HX := Lib.hid hX
  have HW := Lib.hid hw1
  have HD := Lib.hid hd1
  have HG := Lib.hid hg
  obtain ⟨n, hn⟩ := Int.eq_ofNat_of_zero_le (show 0 ≤ L by have := hg.l1; have := h.eL; omega)
  subst hn
  have HL : Hid (d.L = (n : Int)) := h.eL
  have HLn : Hid (d.L.toNat = n) := by have := h.eL; unfold Hid; omega
  have hn6 : n ≤ 6 := by have := hg.l6; have := h.eL; omega
  have hn1 : 0 < n := by have := hg.l1; have := h.eL; omega
  have h40 := hg.n40
  have h01 := hg.n1
  have hfn := hg.fin
  clear h hd1 hw1 hX hB1 hg
  generalize hm : d.fin.length = m at *
  generalize hN : d.next.length = N at *
  have HN := Lib.hid hN
  have hmN : N ≤ m := by omega
  clear hN hm hfn
  have HS : Hid (NInv w1 w1 d N 0 (.slice none 0 0)) := ⟨[], ⟨(own_start w1).nil 23 1, fun r hr => by simp at hr⟩, rfl, fun j r hj => by simp at hj⟩
  go_enter Tryd.func33, Tryd.ntmps33
  go_wp2
  rw [← HW.out]
  clear HW
  go_loopw [5, 6] (fun tv i wr => ∃ (k : Nat), k ≤ M + 1 ∧ i = .int .i64 k ∧ Hid (NInv w1 wr d N k tv)) (fun _ i _ => M + 1 - (intOf i).toNat)
  case atStart => exact ⟨0, by omega, rfl, HS⟩
  case round =>
    clear HS
    obtain ⟨k, hk, rfl, HS⟩ := hrel
    obtain ⟨rs, hown, hlen, hrows⟩ := HS.out
    have HO := Lib.hid hown
    have HLen := Lib.hid hlen
    have HRows := Lib.hid hrows
    have hlen1 : (rs.map (brV N)).length < 1099511627776 := by rw [List.length_map]; omega
    have HXw := Lib.hid (HX.out.on hown.1.below)
    clear HS hown hlen hrows
    by_cases hkM : k ≤ M
    · have hc2 := HXw.out.c2
      go_wp2_with (at_make; refine mk_bools rfl _ _ rfl N rfl rfl (by omega) ?_)
      intro w4 ho4
      have HO4 : Hid (OwnT w1 w4 N u5 rs [eBools (rowV wr.heap.size N) (List.replicate N false)]) := ⟨(HO.out.1.join ho4).two.weak (fun e he => List.mem_append_right _ he), HO.out.2⟩
      have HRL : Hid (∀ r ∈ rs, r.2.length = N) := HO.out.2
      clear ho4 hc2 HO HXw
      go_wp2
      generalize wr.heap.size = gw at *
      rcases k with _ | k
      · as_aux_lemma =>
          have HR0 : Hid (OwnT w1 w4 N u5 rs [eBools (rowV gw N) (bF N (g0 d 0))]) := by rw [g0_start]; exact HO4.out
          clear HO4
          go_loopw [8] (fun i wi => ∃ (q : Nat), q ≤ N ∧ i = .int .i64 q ∧ Hid (OwnT w1 wi N u5 rs [eBools (rowV gw N) (bF N (g0 d q))])) (fun i _ => N - (intOf i).toNat)
          case atStart => exact ⟨0, by omega, rfl, HR0⟩
          case round =>
            clear HR0
            obtain ⟨q, hq, rfl, HR⟩ := hrel
            have hown := HR.out.1
            by_cases hqN : q < N
            · have hbw := hown.below
              obtain ⟨adf, rfl, hfb, hfc, hfl⟩ := (HD.out.on hbw).fins.at_ (HG.out.fin_at (q := q) (by rw [HN.out]; exact hqN))
              have hc0 := (HX.out.on hbw).c0
              have hc3 := (HX.out.on hbw).c3
              obtain ⟨hk1, hk2⟩ := own_bools_cell (g := gw) (n := N) (cap := N) (l := bF N (g0 d q)) hown (List.mem_append_left _ (by simp)) (bF_length _ _) (bF_get _ hqN)
              have HN1 : Hid (OwnT w1 (wr.setCell ⟨gw, q, none⟩ (.bool (finA d q))) N u5 rs [eBools (rowV gw N) (bF N (g0 d (q + 1)))]) := by
                refine ⟨?_, HR.out.2⟩
                rw [← g0_step]
                exact (own_bools_set hown.two (bF_length _ _) q (finA d q)).two
              have hc0' : (wr.setCell ⟨gw, q, none⟩ (.bool (finA d q))).cell? ⟨w.heap.size, 0, none⟩ = some (.int .i64 (n : Int)) := (HX.out.on HN1.out.1.below).c0
              have e1 : (q : Int) < (m : Int) := by omega
              clear hown hbw HR hfl
              generalize g0 d q q = old at *
              generalize finA d q = b at *
              have hn0 : (0 : Int) < (n : Int) := by omega
              go_wp2
              generalize hwz : wr.setCell ⟨gw, q, none⟩ (.bool b) = wz at *
              clear hwz hc0 hc3 hk1 hk2 hfc
              have HZ := Lib.hid hc0'
              clear hc0'
              go_loopw [9] (fun i wi => i = .int .i64 0 ∧ Hid (wi = wz)) (fun _ _ => 0)
              case atStart => exact ⟨rfl, rfl⟩
              case round =>
                obtain ⟨rfl, hwi⟩ := hrel
                obtain rfl := hwi.out
                have hc0' := HZ.out
                go_wp2
                go_roundw
                case rel => exact ⟨q + 1, by omega, by go_num, HN1⟩
                case measure => simp [intOf]; omega
            · obtain rfl : q = N := by omega
              have HO2 : Hid (Own w1 wr (eBRows u5 (rs.map (brV q)) :: [eBools (rowV gw q) (bF q (inK d 0))]) (eEachB q rs)) := by rw [← g0_done]; exact hown
              clear hown HR
              go_wp2_with (at_builtin; refine own_brow (by rfl) _ _ (by rfl) (by rfl) HO2.out (by rfl) (by rfl) hlen1 ?_)
              intro g8 cap8 w8 ho8
              have HE : Hid (NInv w1 w8 d q (0 + 1) (.slice (some ⟨g8, 0, none⟩) (rs.length + 1) cap8)) := by
                refine ⟨rs ++ [(gw, bF q (inK d 0))], ownT_snoc (bF_length _ _) HRL.out ho8, by rw [List.length_append, HLen.out]; rfl, ?_⟩
                have := inRows_snoc HRows.out gw
                rw [HLen.out] at this
                exact this
              clear ho8 HO2
              go_wp2
              go_roundw
              case rel => exact ⟨0 + 1, by omega, by go_num, HE⟩
              case measure => simp [intOf]
      · as_aux_lemma =>
          have HR0 : Hid (OwnT w1 w4 N u5 rs [eBools (rowV gw N) (bF N (gI d k 0 0))]) := by rw [gI_start]; exact HO4.out
          obtain ⟨At, ct, htv⟩ := ownT_form HO4.out
          subst htv
          obtain ⟨r, hr⟩ : ∃ r, rs[k]? = some r := ⟨_, List.getElem?_eq_getElem (by have := HLen.out; omega)⟩
          have HRr := Lib.hid hr
          have hr2 := HRows.out k r hr
          have HR2 := Lib.hid hr2
          have e9 : (k : Int) < (rs.length : Int) := by have := HLen.out; omega
          clear HO4 hr hr2
          go_loopw [8] (fun i wi => ∃ (q : Nat), q ≤ N ∧ i = .int .i64 q ∧ Hid (OwnT w1 wi N (.slice At rs.length ct) rs [eBools (rowV gw N) (bF N (gI d k q 0))])) (fun i _ => N - (intOf i).toNat)
          case atStart => exact ⟨0, by omega, rfl, HR0⟩
          case round =>
            clear HR0
            obtain ⟨q, hq, rfl, HR⟩ := hrel
            by_cases hqN : q < N
            · go_wp2
              go_loopw [9] (fun i wi => ∃ (c : Nat), c ≤ n ∧ i = .int .i64 c ∧ Hid (OwnT w1 wi N (.slice At rs.length ct) rs [eBools (rowV gw N) (bF N (gI d k q c))])) (fun i _ => n - (intOf i).toNat)
              case atStart => exact ⟨0, by omega, rfl, HR⟩
              case round =>
                clear HR
                obtain ⟨j, hj, rfl, HR⟩ := hrel
                have hown := HR.out.1
                have hbw := hown.below
                have hc0 := (HX.out.on hbw).c0
                by_cases hjn : j < n
                · have hq' : q < d.next.length := by rw [HN.out]; exact hqN
                  obtain ⟨ad, ar, mr, cr, rfl, hadb, hcell, hjm, harb, hac⟩ := (HD.out.on hbw).step_at HG.out hq' (i := j) (by rw [HL.out]; omega)
                  have hst := HG.out.step_lt hq' (a := j) (by rw [HL.out]; omega)
                  rw [HN.out] at hst
                  obtain ⟨adt, rfl, hatb, hatc⟩ := ownT_row HR.out HRr.out
                  obtain ⟨hrb, hrc⟩ := ownT_at HR.out HRr.out (j := Df.step d q j) (b := inK d k (Df.step d q j)) (by rw [HR2.out]; exact bF_get _ hst)
                  have hc2 := (HX.out.on hbw).c2
                  have e1 : (Df.step d q j : Int) < (N : Int) := by omega
                  have e2 : (j : Int) < (mr : Int) := by omega
                  rcases hin : inK d k (Df.step d q j) with _ | _
                  · have HN1 : Hid (OwnT w1 wr.drew N (.slice (some adt) rs.length ct) rs [eBools (rowV gw N) (bF N (gI d k q (j + 1)))]) := by
                      rw [← gI_miss hin]; exact ownT_on HR.out (Below.refl _ _).drew
                    rw [hin] at hrc
                    clear hin hown hbw HR hst
                    unfold brV at hatc
                    generalize Df.step d q j = u at *
                    go_wp2
                    go_region
                    clear hc0 hc2 hatc hrc hcell hac
                    go_wp2
                    go_roundw
                    case rel => exact ⟨j + 1, by omega, by go_num, HN1⟩
                    case measure => simp [intOf]; omega
                  · obtain ⟨hk1, hk2⟩ := own_bools_cell (g := gw) (n := N) (cap := N) (l := bF N (gI d k q j)) (HR.out.1.on (Below.refl _ _).drew) (List.mem_append_left _ (by simp)) (bF_length _ _) (bF_get _ hqN)
                    have HN1 : Hid (OwnT w1 (wr.drew.setCell ⟨gw, q, none⟩ (.bool true)) N (.slice (some adt) rs.length ct) rs [eBools (rowV gw N) (bF N (gI d k q (j + 1)))]) := by
                      refine ⟨?_, HR.out.2⟩
                      rw [← gI_hit hin]
                      exact (own_bools_set (HR.out.1.on (Below.refl _ _).drew).two (bF_length _ _) q true).two
                    rw [hin] at hrc
                    clear hin hown hbw HR hst
                    unfold brV at hatc
                    generalize Df.step d q j = u at *
                    generalize gI d k q j q = old at *
                    go_wp2
                    go_region
                    clear hc0 hc2 hatc hrc hcell hac
                    go_wp2
                    go_roundw
                    case rel => exact ⟨j + 1, by omega, by go_num, HN1⟩
                    case measure => simp [intOf]; omega
                · obtain rfl : j = n := by omega
                  have HEnd : Hid (OwnT w1 wr N (.slice At rs.length ct) rs [eBools (rowV gw N) (bF N (gI d k (q + 1) 0))]) := by
                    rw [← gI_row, HLn.out]; exact HR.out
                  clear HR hown hbw
                  go_wp2
                  go_roundw
                  case rel => exact ⟨q + 1, by omega, by go_num, HEnd⟩
                  case measure => simp [intOf]; omega
            · obtain rfl : q = N := by omega
              have HO2 : Hid (Own w1 wr (eBRows (.slice At rs.length ct) (rs.map (brV q)) :: [eBools (rowV gw q) (bF q (inK d (k + 1)))]) (eEachB q rs)) := by rw [← gI_done]; exact HR.out.1
              clear HR
              go_wp2_with (at_builtin; refine own_brow (by rfl) _ _ (by rfl) (by rfl) HO2.out (by rfl) (by rfl) hlen1 ?_)
              intro g8 cap8 w8 ho8
              have HE : Hid (NInv w1 w8 d q (k + 1 + 1) (.slice (some ⟨g8, 0, none⟩) (rs.length + 1) cap8)) := by
                refine ⟨rs ++ [(gw, bF q (inK d (k + 1)))], ownT_snoc (bF_length _ _) HRL.out ho8, by rw [List.length_append, HLen.out]; rfl, ?_⟩
                have := inRows_snoc HRows.out gw
                rw [HLen.out] at this
                exact this
              clear ho8 HO2
              go_wp2
              go_roundw
              case rel => exact ⟨k + 1 + 1, by omega, by go_num, HE⟩
              case measure => simp [intOf]; omega
    · obtain rfl : k = M + 1 := by omega
      obtain ⟨At, ct, htv⟩ := ownT_form HO.out
      subst htv
      have HT := Lib.hid (ownT_tab (by omega) HO.out)
      have HBe := Lib.hid (HB.out.trans (HO.out.1.below.mono HB.out.size))
      clear HO HXw
      go_wp2
      go_ret
      exact ⟨At, ct, rs, by rw [HLen.out]; rfl, HLen.out, HRows.out, HT.out, HBe.out⟩
end Go.Proofs.YtblkaegnnokedaaDoor.Rc
