/- The walk of the document's answer of final states by their distance: stilewardref1's In. The walks of the document's answer for what is reached and alive: stilewardref1's Leads, Reached, Live, Alive. The walks of the document's answer for the lists of what is reached and alive: stilewardref1's Reached, Live, Alive. -/
import Derived.Test.YtbciefeipiphiaaDoorBoolT
import Derived.Test.YtbciefeipiphiaaDoorFirst
import Derived.Test.YtbciefeipiphiaaDoorReached
import Derived.Test.YtbciefeipiphiaaDoorDfaR
import Derived.Test.YtbciefeipiphiaaDoorDfaM

namespace Go.Proofs.YtbciefeipiphiaaDoor.Rc
open Go.RowKit Go.IntWalk Go.Proofs.YtbciefeipiphiaaDoor.Wd Go.Proofs.YtbciefeipiphiaaDoor.Wo Go.Proofs.YtbciefeipiphiaaDoor.Df

def g0 (d : Aut) (s t : Nat) : Bool := if t < s then finA d t else false
/-- The rows so far. -/
def InRows (d : Aut) (N : Nat) (rs : List Br) : Prop := ∀ j r, rs[j]? = some r → r.2 = bF N (inK d j)
/-- The table under way. -/
def NInv (w1 wr : World) (d : Aut) (N k : Nat) (tv : Value) : Prop := ∃ rs, OwnT w1 wr N tv rs [] ∧ rs.length = k ∧ InRows d N rs
end Go.Proofs.YtbciefeipiphiaaDoor.Rc

namespace Go.Proofs.YtbciefeipiphiaaDoor.Rc
open Go.RowKit Go.IntWalk Go.Proofs.YtbciefeipiphiaaDoor.Wd Go.Proofs.YtbciefeipiphiaaDoor.Wo Go.Proofs.YtbciefeipiphiaaDoor.Df
/-! ### a table whose rows are still written to -/
/-- A first row, midway. -/
def r1 (d : Aut) (i c t : Nat) : Bool := decide (t = i ∨ t ∈ (S1 d i).take c)
theorem r1_start (d : Aut) (i n : Nat) : (List.replicate n false).set i true = bF n (r1 d i 0) := by
  rw [← bF_false, bF_set]
  refine bF_congr fun t _ => ?_
  unfold r1
  by_cases e : t = i
  · rw [if_pos e, decide_eq_true (.inl e)]
  · rw [if_neg e, decide_eq_false]
    rw [List.take_zero]; simp [e]
theorem r1_step {d : Aut} {i c t n : Nat} (h : (S1 d i)[c]? = some t) : (bF n (r1 d i c)).set t true = bF n (r1 d i (c + 1)) := by
  obtain ⟨h1, h2⟩ := List.getElem?_eq_some_iff.1 h
  rw [bF_set]
  refine bF_congr fun u _ => ?_
  unfold r1
  have hm : u ∈ (S1 d i).take (c + 1) ↔ u ∈ (S1 d i).take c ∨ u = t := by rw [← List.take_append_getElem h1, h2]; simp
  by_cases e : u = t
  · rw [if_pos e, decide_eq_true (.inr (hm.2 (.inr e)))]
  · rw [if_neg e]
    by_cases h3 : u = i ∨ u ∈ (S1 d i).take c
    · rw [decide_eq_true h3, decide_eq_true (h3.imp id (fun q => hm.2 (.inl q)))]
    · rw [decide_eq_false h3, decide_eq_false (fun q => h3 (q.imp id (fun q => (hm.1 q).resolve_right e)))]
def R1 (d : Aut) (i t : Nat) : Bool := decide (t = i ∨ t ∈ S1 d i)
theorem r1_full {d : Aut} {i c n : Nat} (h : (S1 d i).length = c) : bF n (r1 d i c) = bF n (R1 d i) := bF_congr fun t _ => by unfold r1 R1; rw [List.take_of_length_le (by omega)]
/-- Under way: the first rows; the phases. -/
def P1 (w1 wr : World) (d : Aut) (N k : Nat) (tv : Value) : Prop := ∃ rs, OwnM w1 wr N tv rs ∧ rs.length = k ∧ RowsM N rs (R1 d)
def P2 (w1 wr : World) (d : Aut) (N : Nat) (tv : Value) (k i j : Nat) : Prop := ∃ rs M, OwnM w1 wr N tv rs ∧ rs.length = N ∧ RowsM N rs M ∧ Tabl d M k i j
set_option linter.unusedSimpArgs false in
set_option maxRecDepth 100000 in
set_option maxHeartbeats 4000000 in
theorem leads_any (v : Value) (d : Aut) (w : World) (h : DfaAt w w.heap.size v d) (hg : Df.Good d) :
    Calls Tryd.prog 44 #[v] w fun e w' => Hid (∃ A cap rs, e = .returned (.slice A d.next.length cap) ∧ rs.length = d.next.length ∧ RowsM d.next.length rs (isReached d) ∧ TabAt w' A d.next.length rs ∧ Below w.heap.size w w') := by
  obtain ⟨L, s, A, c, F, cf, rfl, h⟩ := h
  obtain ⟨w1, hw1, hB1, hX, hd1⟩ := box_dfa w h
  have HB := Lib.hid hB1
  have HX := Lib.hid hX
  have HW := Lib.hid hw1
  have HD := Lib.hid hd1
  have HG := Lib.hid hg
  obtain ⟨n, hn⟩ := Int.eq_ofNat_of_zero_le (show 0 ≤ L by have := hg.l1; have := h.eL; omega)
  subst hn
  have HL : Hid (d.L = (n : Int)) := h.eL
  have hn6 : n ≤ 6 := by have := hg.l6; have := h.eL; omega
  have h40 := hg.n40
  have h01 := hg.n1
  clear h hd1 hw1 hX hB1 hg
  generalize hm : d.fin.length = m at *
  clear hm
  generalize hN : d.next.length = N at *
  have HN := Lib.hid hN
  clear hN
  have HS : Hid (P1 w1 w1 d N 0 (.slice none 0 0)) := ⟨[], ⟨(own_start w1).nil 23 1, fun r hr => by simp at hr⟩, rfl, fun j r hj => by simp at hj⟩
  go_enter Tryd.func44, Tryd.ntmps44
  go_wp2
  rw [← HW.out]
  clear HW
  go_loopw [4, 5] (fun tv i wr => ∃ (k : Nat), k ≤ N ∧ i = .int .i64 k ∧ Hid (P1 w1 wr d N k tv)) (fun _ i _ => N - (intOf i).toNat)
  case atStart => exact ⟨0, by omega, rfl, HS⟩
  case round =>
    clear HS
    obtain ⟨k, hk, rfl, HS⟩ := hrel
    obtain ⟨rs, hown, hlen, hrows⟩ := HS.out
    have HLen := Lib.hid hlen
    have HRows := Lib.hid hrows
    have HRL := Lib.hid hown.2
    have HO := Lib.hid hown
    have hlen1 : (rs.map (brV N)).length < 1099511627776 := by rw [List.length_map]; omega
    clear HS hown hlen hrows
    by_cases hkN : k < N
    · as_aux_lemma =>
        go_wp2_with (at_make; refine mk_bools rfl _ _ rfl N rfl rfl (by omega) ?_)
        intro w4 ho4
        have hj4 := HO.out.1.join ho4
        obtain ⟨hk1, hk2⟩ := own_bools_cell (g := wr.heap.size) (n := N) (cap := N) (l := List.replicate N false) hj4 (List.mem_append_left _ (by simp)) (by simp) (j := k) (x := false) (by simp [hkN])
        have HR0 : Hid (Own w1 (w4.setCell ⟨wr.heap.size, k, none⟩ (.bool true)) (eBools (rowV wr.heap.size N) (bF N (r1 d k 0)) :: eBRows u4 (rs.map (brV N)) :: eEachB N rs) []) := by
          rw [← r1_start]
          exact own_bools_set hj4 (by simp) k true
        clear ho4 hj4 HO
        go_wp2
        clear hk1 hk2
        generalize hw5 : w4.setCell ⟨wr.heap.size, k, none⟩ (.bool true) = w5 at *
        clear hw5
        generalize wr.heap.size = gw at *
        have HKl : Hid (k < d.next.length) := by unfold Hid; rw [HN.out]; exact hkN
        go_loopw [7] (fun i wi => ∃ (q : Nat), q ≤ n ∧ i = .int .i64 q ∧ Hid (Own w1 wi (eBools (rowV gw N) (bF N (r1 d k q)) :: eBRows u4 (rs.map (brV N)) :: eEachB N rs) [])) (fun i _ => n - (intOf i).toNat)
        case atStart => exact ⟨0, by omega, rfl, HR0⟩
        case round =>
          clear HR0
          obtain ⟨q, hq, rfl, HR⟩ := hrel
          have hbw := HR.out.below
          have hc0 := (HX.out.on hbw).c0
          by_cases hqn : q < n
          · obtain ⟨ad, ar, mr, cr, rfl, hadb, hcell, hjm, harb, hac⟩ := (HD.out.on hbw).step_at HG.out HKl.out (i := q) (by rw [HL.out]; omega)
            have hst := HG.out.step_lt HKl.out (a := q) (by rw [HL.out]; omega)
            rw [HN.out] at hst
            have hS1 := S1_get d k (c := q) (by rw [HL.out]; omega)
            obtain ⟨hk1, hk2⟩ := own_bools_cell (g := gw) (n := N) (cap := N) (l := bF N (r1 d k q)) HR.out (List.mem_append_left _ List.mem_cons_self) (bF_length _ _) (bF_get _ hst)
            have HN1 : Hid (Own w1 (wr.setCell ⟨gw, Df.step d k q, none⟩ (.bool true)) (eBools (rowV gw N) (bF N (r1 d k (q + 1))) :: eBRows u4 (rs.map (brV N)) :: eEachB N rs) []) := by
              rw [← r1_step hS1]
              exact own_bools_set HR.out (bF_length _ _) _ true
            have hc2 := (HX.out.on hbw).c2
            have e1 : (Df.step d k q : Int) < (N : Int) := by omega
            have e2 : (q : Int) < (mr : Int) := by omega
            have e3 : (k : Int) < (N : Int) := by omega
            clear hS1 hst HR hbw
            generalize Df.step d k q = u at *
            generalize r1 d k q u = old at *
            go_wp2
            go_roundw
            case rel => exact ⟨q + 1, by omega, by go_num, HN1⟩
            case measure => simp [intOf]; omega
          · obtain rfl : q = n := by omega
            have hS1 : (S1 d k).length = q := by rw [S1_length, HL.out]; rfl
            have HO2 : Hid (Own w1 wr (eBRows u4 (rs.map (brV N)) :: eBools (rowV gw N) (bF N (R1 d k)) :: eEachB N rs) []) := by rw [← r1_full hS1]; exact HR.out.two
            clear HR hS1 hbw
            go_wp2_with (at_builtin; refine own_brow (by rfl) _ _ (by rfl) (by rfl) HO2.out (by rfl) (by rfl) hlen1 ?_)
            intro g8 cap8 w8 ho8
            have HE : Hid (P1 w1 w8 d N (k + 1) (.slice (some ⟨g8, 0, none⟩) (rs.length + 1) cap8)) :=
              ⟨rs ++ [(gw, bF N (R1 d k))], ownM_snoc (bF_length _ _) HRL.out ho8, by rw [List.length_append, HLen.out]; rfl, rowsM_snoc HRows.out gw HLen.out⟩
            clear ho8 HO2
            go_wp2
            go_roundw
            case rel => exact ⟨k + 1, by omega, by go_num, HE⟩
            case measure => simp [intOf]; omega
    · obtain rfl : k = N := by omega
      have HS2 : Hid (P2 w1 wr d k u4 0 0 0) := ⟨rs, R1 d, HO.out, HLen.out, HRows.out, tabl_start fun x y hx => by unfold R1; rw [decide_eq_true_eq]⟩
      obtain ⟨At, ct, htv⟩ := ownT_form (ownM_T HO.out)
      rw [HLen.out] at htv
      subst htv
      clear HO HRows HRL HLen
      go_wp2
      generalize wr = wz at *
      go_loopw [8] (fun i wr => ∃ (q : Nat), q ≤ k ∧ i = .int .i64 q ∧ Hid (P2 w1 wr d k (.slice At k ct) q 0 0)) (fun i _ => k - (intOf i).toNat)
      case atStart => exact ⟨0, by omega, rfl, HS2⟩
      case round =>
        clear HS2
        obtain ⟨q, hq, rfl, HS⟩ := hrel
        by_cases hqk : q < k
        · go_wp2
          go_loopw [9] (fun i wr => ∃ (x : Nat), x ≤ k ∧ i = .int .i64 x ∧ Hid (P2 w1 wr d k (.slice At k ct) q x 0)) (fun i _ => k - (intOf i).toNat)
          case atStart => exact ⟨0, by omega, rfl, HS⟩
          case round =>
            clear HS
            obtain ⟨x, hx, rfl, HS⟩ := hrel
            by_cases hxk : x < k
            · go_wp2
              go_loopw [10] (fun i wr => ∃ (y : Nat), y ≤ k ∧ i = .int .i64 y ∧ Hid (P2 w1 wr d k (.slice At k ct) q x y)) (fun i _ => k - (intOf i).toNat)
              case atStart => exact ⟨0, by omega, rfl, HS⟩
              case round =>
                clear HS
                obtain ⟨y, hy, rfl, HS⟩ := hrel
                by_cases hyk : y < k
                · as_aux_lemma =>
                    obtain ⟨rs, M, hown, hlen, hrows, htab⟩ := HS.out
                    have hT := ownT_tab (N := k) (rs := rs) (A := At) (cap := ct) (by omega) (by rw [hlen]; exact ownM_T hown)
                    obtain ⟨ri, hri⟩ : ∃ r, rs[x]? = some r := ⟨_, List.getElem?_eq_getElem (by omega)⟩
                    obtain ⟨rk, hrk⟩ : ∃ r, rs[q]? = some r := ⟨_, List.getElem?_eq_getElem (by omega)⟩
                    obtain ⟨_, ⟨adt, e0, hatb, hati⟩, hrib, hric⟩ := hT x ri hri
                    subst e0
                    obtain ⟨_, ⟨adt', e0, _, hatk⟩, hrkb, hrkc⟩ := hT q rk hrk
                    cases e0
                    have c1 := hric q (M x q) (by rw [hrows x ri hri]; exact bF_get _ hqk)
                    have c2 := hrkc y (M q y) (by rw [hrows q rk hrk]; exact bF_get _ hyk)
                    obtain ⟨c3, c4⟩ := ownM_frozen hown hri (j := y) (b := M x y) (by rw [hrows x ri hri]; exact bF_get _ hyk)
                    unfold brV at hati hatk
                    have hk' : k = d.next.length := HN.out.symm
                    have e1 : (x : Int) < (k : Int) := by omega
                    have e2 : (q : Int) < (k : Int) := by omega
                    have e3 : (y : Int) < (k : Int) := by omega
                    have HSet : Hid (M x q = true → M q y = true → P2 w1 (wr.setCell ⟨ri.1, y, none⟩ (.bool true)) d k (.slice (some adt) k ct) q x (y + 1)) := fun h1 h2 =>
                      ⟨_, mSet M x y, ownM_set hown hri y true, by rw [List.length_set]; exact hlen, rowsM_set hrows hri, tabl_step htab (by omega) (by omega) (by omega) fun a b => by
                        unfold mSet
                        by_cases e : a = x ∧ b = y
                        · rw [if_pos e, decide_eq_true e.1, decide_eq_true e.2, h1, h2]; simp
                        · rw [if_neg e]
                          by_cases ea : a = x
                          · have eb : ¬ b = y := fun q => e ⟨ea, q⟩
                            rw [decide_eq_false eb]; simp
                          · rw [decide_eq_false ea]; simp⟩
                    have HKeep : Hid ((M x q && M q y) = false → P2 w1 wr d k (.slice (some adt) k ct) q x (y + 1)) := fun h1 =>
                      ⟨rs, M, hown, hlen, hrows, tabl_step htab (by omega) (by omega) (by omega) fun a b => by rw [Bool.and_assoc, h1, Bool.and_false, Bool.or_false]⟩
                    clear hown hlen hrows htab hT hric hrkc hri hrk HS hk'
                    rcases h1 : M x q with _ | _
                    · have HE := Lib.hid (HKeep.out (by rw [h1]; rfl))
                      rw [h1] at c1
                      clear h1 HSet HKeep c3 c4
                      generalize M q y = b2 at *
                      go_wp2
                      go_roundw
                      case rel => exact ⟨y + 1, by omega, by go_num, HE⟩
                      case measure => simp [intOf]; omega
                    · rcases h2 : M q y with _ | _
                      · have HE := Lib.hid (HKeep.out (by rw [h1, h2]; rfl))
                        rw [h1] at c1
                        rw [h2] at c2
                        clear h1 h2 HSet HKeep c3 c4
                        go_wp2
                        go_roundw
                        case rel => exact ⟨y + 1, by omega, by go_num, HE⟩
                        case measure => simp [intOf]; omega
                      · have HE := Lib.hid (HSet.out h1 h2)
                        rw [h1] at c1
                        rw [h2] at c2
                        clear h1 h2 HSet HKeep
                        generalize M x y = b3 at *
                        go_wp2
                        go_roundw
                        case rel => exact ⟨y + 1, by omega, by go_num, HE⟩
                        case measure => simp [intOf]; omega
                · obtain rfl : y = k := by omega
                  have HE : Hid (P2 w1 wr d y (.slice At y ct) q (x + 1) 0) := by
                    obtain ⟨rs, M, h1, h2, h3, h4⟩ := HS.out
                    rw [← HN.out] at h4
                    exact ⟨rs, M, h1, h2, h3, tabl_row h4⟩
                  clear HS
                  go_wp2
                  go_roundw
                  case rel => exact ⟨x + 1, by omega, by go_num, HE⟩
                  case measure => simp [intOf]; omega
            · obtain rfl : x = k := by omega
              have HE : Hid (P2 w1 wr d x (.slice At x ct) (q + 1) 0 0) := by
                obtain ⟨rs, M, h1, h2, h3, h4⟩ := HS.out
                rw [← HN.out] at h4
                exact ⟨rs, M, h1, h2, h3, tabl_phase h4⟩
              clear HS
              go_wp2
              go_roundw
              case rel => exact ⟨q + 1, by omega, by go_num, HE⟩
              case measure => simp [intOf]; omega
        · obtain rfl : q = k := by omega
          obtain ⟨rs, M, h1, h2, h3, h4⟩ := HS.out
          have HT := Lib.hid (ownT_tab (N := q) (rs := rs) (A := At) (cap := ct) (by omega) (by rw [h2]; exact ownM_T h1))
          have HBe := Lib.hid (HB.out.trans (h1.1.below.mono HB.out.size))
          have HLen := Lib.hid h2
          have HR : Hid (RowsM q rs (isReached d)) := fun i r hi => by
            rw [h3 i r hi]
            refine bF_congr fun t ht => ?_
            rw [← HN.out] at h4
            exact tabl_end HG.out h4 (by have := (List.getElem?_eq_some_iff.1 hi).1; rw [HN.out]; omega) (by rw [HN.out]; exact ht)
          clear h1 h2 h3 h4 HS
          go_wp2
          go_ret
          exact ⟨At, ct, rs, rfl, HLen.out, HR.out, HT.out, HBe.out⟩
end Go.Proofs.YtbciefeipiphiaaDoor.Rc

namespace Go.Proofs.YtbciefeipiphiaaDoor.Rc
open Go.RowKit Go.IntWalk Go.Proofs.YtbciefeipiphiaaDoor.Wd Go.Proofs.YtbciefeipiphiaaDoor.Wo Go.Proofs.YtbciefeipiphiaaDoor.Df

def liveTo (d : Aut) (s t : Nat) : Bool := (List.range t).any fun u => isReached d s u && finA d u
theorem liveTo_succ (d : Aut) (s t : Nat) : liveTo d s (t + 1) = (liveTo d s t || (isReached d s t && finA d t)) := by unfold liveTo; rw [List.range_succ, List.any_append]; simp
theorem liveTo_full {d : Aut} (g : Df.Good d) {s : Nat} (hs : s < d.next.length) : liveTo d s d.next.length = isAlive d s := by
  rw [Bool.eq_iff_iff]
  unfold liveTo isAlive
  rw [List.any_eq_true, List.any_eq_true]
  constructor
  · rintro ⟨u, _, h⟩
    rw [Bool.and_eq_true] at h
    exact ⟨u, of_decide_eq_true h.1, h.2⟩
  · rintro ⟨u, hu, h⟩
    exact ⟨u, List.mem_range.2 (rset_lt g hs hu), by rw [Bool.and_eq_true]; exact ⟨decide_eq_true hu, h⟩⟩
def gL (d : Aut) (s t x : Nat) : Bool := if x < s then isAlive d x else if x = s then liveTo d s t else false
theorem gL_start (d : Aut) (n : Nat) : bF n (gL d 0 0) = List.replicate n false := by
  rw [← bF_false]
  refine bF_congr fun t _ => ?_
  unfold gL
  rw [if_neg (by omega)]
  split
  · rfl
  · rfl
theorem gL_hit {d : Aut} {s t n : Nat} (h : (isReached d s t && finA d t) = true) : (bF n (gL d s t)).set s true = bF n (gL d s (t + 1)) := by
  rw [bF_set]
  refine bF_congr fun x _ => ?_
  unfold gL
  by_cases e : x = s
  · subst e; rw [if_pos rfl, if_neg (by omega), if_pos rfl, liveTo_succ, h, Bool.or_true]
  · rw [if_neg e, if_neg e, if_neg e]
theorem gL_miss {d : Aut} {s t n : Nat} (h : (isReached d s t && finA d t) = false) : bF n (gL d s t) = bF n (gL d s (t + 1)) := by
  refine bF_congr fun x _ => ?_
  unfold gL
  rw [liveTo_succ, h, Bool.or_false]
theorem gL_row {d : Aut} (g : Df.Good d) {s n : Nat} (hs : s < d.next.length) : bF n (gL d s d.next.length) = bF n (gL d (s + 1) 0) := by
  refine bF_congr fun t _ => ?_
  unfold gL
  by_cases h1 : t < s
  · rw [if_pos h1, if_pos (by omega)]
  · rw [if_neg h1]
    by_cases h2 : t = s
    · subst h2; rw [if_pos rfl, if_pos (by omega), liveTo_full g hs]
    · rw [if_neg h2, if_neg (by omega)]
      split
      · rfl
      · rfl
theorem gL_done (d : Aut) (n : Nat) : bF n (gL d n 0) = bF n (isAlive d) := bF_congr fun t ht => by unfold gL; rw [if_pos ht]
set_option maxRecDepth 100000 in
set_option maxHeartbeats 2000000 in
theorem live_any (v : Value) (d : Aut) (w : World) (h : DfaAt w w.heap.size v d) (hg : Df.Good d) :
    Calls Tryd.prog 20 #[v] w fun e w' => Hid (∃ g, e = .returned (rowV g d.next.length) ∧ Own w w' [] [eBools (rowV g d.next.length) (bF d.next.length (isAlive d))]) := by
  have HV := h
  obtain ⟨L, s, A, c, F, cf, rfl, h⟩ := h
  obtain ⟨w1, hw1, hB1, hX, hd1⟩ := box_dfa w h
  have HB := Lib.hid hB1
  have HX := Lib.hid hX
  have HW := Lib.hid hw1
  have HD := Lib.hid hd1
  have HG := Lib.hid hg
  have HLd := Lib.hid (leads_any _ d w1 (HV.on hB1) hg)
  have h40 := hg.n40
  have hfn := hg.fin
  have hc0 := hX.c0
  have hc1 := hX.c1
  have hc2 := hX.c2
  have hc3 := hX.c3
  clear h hd1 hw1 hX hB1 hg HV
  generalize hm : d.fin.length = m at *
  generalize hN : d.next.length = N at *
  have HN := Lib.hid hN
  have hmN : N ≤ m := by omega
  clear hN hm hfn
  go_enter Tryd.func20, Tryd.ntmps20
  go_wp2_with fail
  rw [← HW.out]
  clear HW
  refine HLd.out.mono ?_
  rintro e w2 he
  obtain ⟨At, ct, rs, h1, h2, h3, h4, h5⟩ := he.out
  subst h1
  have HT := Lib.hid h4
  have HLen := Lib.hid h2
  have HRows := Lib.hid h3
  have HX := Lib.hid (HX.out.on h5)
  have HD := Lib.hid (HD.out.on h5)
  have HB := Lib.hid (HB.out.trans (h5.mono HB.out.size))
  clear he h2 h3 h4 h5 HLd hc0 hc1 hc2 hc3
  go_wp2_with (at_make; refine mk_bools rfl _ _ rfl N rfl rfl (by omega) ?_)
  intro w4 ho4
  have HR0 : Hid (Own w2 w4 [eBools (rowV w2.heap.size N) (bF N (gL d 0 0))] []) := by rw [gL_start]; exact ho4
  clear ho4
  go_wp2
  generalize w2.heap.size = gw at HR0 ⊢
  go_loopw [5] (fun i wi => ∃ (q : Nat), q ≤ N ∧ i = .int .i64 q ∧ Hid (Own w2 wi [eBools (rowV gw N) (bF N (gL d q 0))] [])) (fun i _ => N - (intOf i).toNat)
  case atStart => exact ⟨0, by omega, rfl, HR0⟩
  case round =>
    clear HR0
    obtain ⟨q, hq, rfl, HR⟩ := hrel
    by_cases hqN : q < N
    · obtain ⟨r, hr⟩ : ∃ r, rs[q]? = some r := ⟨_, List.getElem?_eq_getElem (by rw [HLen.out]; exact hqN)⟩
      have HRr := Lib.hid hr
      have HR2 : Hid (r.2 = bF N (isReached d q)) := HRows.out q r hr
      clear hr
      go_wp2
      go_loopw [6] (fun i wi => ∃ (j : Nat), j ≤ N ∧ i = .int .i64 j ∧ Hid (Own w2 wi [eBools (rowV gw N) (bF N (gL d q j))] [])) (fun i _ => N - (intOf i).toNat)
      case atStart => exact ⟨0, by omega, rfl, HR⟩
      case round =>
        clear HR
        obtain ⟨j, hj, rfl, HR⟩ := hrel
        have hbw := HR.out.below
        by_cases hjN : j < N
        · obtain ⟨_, ⟨adt, e0, hatb, hatc⟩, hrb, hrc0⟩ := (HT.out.on hbw) q r HRr.out
          subst e0
          have hrc := hrc0 j (isReached d q j) (by rw [HR2.out]; exact bF_get _ hjN)
          clear hrc0
          unfold brV at hatc
          obtain ⟨adf, rfl, hfb, hfc, hfl⟩ := (HD.out.on hbw).fins.at_ (HG.out.fin_at (q := j) (by rw [HN.out]; exact hjN))
          have hc3 := (HX.out.on hbw).c3
          obtain ⟨hk1, hk2⟩ := own_bools_cell HR.out (List.mem_append_left _ List.mem_cons_self) (bF_length _ _) (bF_get _ hqN)
          have e1 : (q : Int) < (N : Int) := by omega
          have e2 : (j : Int) < (N : Int) := by omega
          have e3 : (j : Int) < (m : Int) := by omega
          rcases h1 : isReached d q j with _ | _
          · have HE : Hid (Own w2 wr [eBools (rowV gw N) (bF N (gL d q (j + 1)))] []) := by rw [← gL_miss (by rw [h1]; rfl)]; exact HR.out
            rw [h1] at hrc
            clear h1 HR hbw hk1 hk2 hfl
            generalize finA d j = b2 at *
            go_wp2
            go_roundw
            case rel => exact ⟨j + 1, by omega, by go_num, HE⟩
            case measure => simp [intOf]; omega
          · rcases h2 : finA d j with _ | _
            · have HE : Hid (Own w2 wr [eBools (rowV gw N) (bF N (gL d q (j + 1)))] []) := by rw [← gL_miss (by rw [h2, Bool.and_false])]; exact HR.out
              rw [h1] at hrc
              rw [h2] at hfc
              clear h1 h2 HR hbw hk1 hk2 hfl
              go_wp2
              go_roundw
              case rel => exact ⟨j + 1, by omega, by go_num, HE⟩
              case measure => simp [intOf]; omega
            · have HE : Hid (Own w2 (wr.setCell ⟨gw, q, none⟩ (.bool true)) [eBools (rowV gw N) (bF N (gL d q (j + 1)))] []) := by
                rw [← gL_hit (by rw [h1, h2]; rfl)]; exact own_bools_set HR.out (bF_length _ _) q true
              rw [h1] at hrc
              rw [h2] at hfc
              clear h1 h2 HR hbw hfl
              generalize gL d q j q = old at *
              go_wp2
              go_roundw
              case rel => exact ⟨j + 1, by omega, by go_num, HE⟩
              case measure => simp [intOf]; omega
        · obtain rfl : j = N := by omega
          have HE : Hid (Own w2 wr [eBools (rowV gw j) (bF j (gL d (q + 1) 0))] []) := by
            rw [← gL_row HG.out (by rw [HN.out]; exact hqN), HN.out]; exact HR.out
          clear HR hbw
          go_wp2
          go_roundw
          case rel => exact ⟨q + 1, by omega, by go_num, HE⟩
          case measure => simp [intOf]; omega
    · obtain rfl : q = N := by omega
      have HE : Hid (Own w wr [] [eBools (rowV gw q) (bF q (isAlive d))]) := by
        have h := (HR.out.base HB.out).fin
        rw [gL_done] at h
        exact h
      clear HR
      go_wp2
      go_ret
      exact ⟨_, rfl, HE.out⟩
end Go.Proofs.YtbciefeipiphiaaDoor.Rc
