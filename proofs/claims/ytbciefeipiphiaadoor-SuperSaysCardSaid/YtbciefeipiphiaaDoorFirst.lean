/- Rows of what package reach's search finds: states with words; clones of words; rows of bools that are made. The walk of package reach's search. The walks of package reach's firstFrom and First. -/
import Derived.Test.YtbciefeipiphiaaDoorDfaP
import Derived.Test.YtbciefeipiphiaaDoorSmallT
import Derived.Handy
import Derived.Test.YtbciefeipiphiaaDoorDfaR

namespace Go.Proofs.YtbciefeipiphiaaDoor.Rc
open Go.RowKit Go.IntWalk Go.Proofs.YtbciefeipiphiaaDoor.Wd Go.Proofs.YtbciefeipiphiaaDoor.Wo Go.Proofs.YtbciefeipiphiaaDoor.Df
/-- One that is found, and its word's value. -/
abbrev Fv := Fd × Value
def fcells (l : List Fv) : List Value := l.flatMap fun p => [.int .i64 ((p.1.1 : Nat) : Int), p.2]
def eFd (v : Value) (l : List Fv) : Ent := ⟨105, 2, v, l.length, fcells l⟩
def eEachW (l : List Fv) : List Ent := l.map fun p => eInts p.2 p.1.2
theorem fcells_append (l m : List Fv) : fcells (l ++ m) = fcells l ++ fcells m := List.flatMap_append
theorem fcells_get : ∀ (l : List Fv) (k : Nat) (p : Fv), l[k]? = some p → (fcells l)[k * 2]? = some (.int .i64 ((p.1.1 : Nat) : Int)) ∧ (fcells l)[k * 2 + 1]? = some p.2
  | [], k, p, h => by simp at h
  | q :: l, 0, p, h => by
    simp only [List.getElem?_cons_zero, Option.some.injEq] at h
    subst h
    exact ⟨rfl, rfl⟩
  | q :: l, k + 1, p, h => by
    rw [List.getElem?_cons_succ] at h
    have := fcells_get l k p h
    have e : fcells (q :: l) = .int .i64 ((q.1.1 : Nat) : Int) :: q.2 :: fcells l := rfl
    rw [e, show (k + 1) * 2 = k * 2 + 1 + 1 by omega]
    simpa using this
theorem infoFound : (Tryd.prog.info? 105).map (fun i => (i.zero, i.size, i.bytes)) = some (some (.agg #[.int .i64 0, .slice none 0 0]), 2, 32) := by kernel_rfl
/-- What a row of them looks like. -/
theorem own_fd {w0 w : World} {es fs : List Ent} (h : Own w0 w es fs) {v : Value} {l : List Fv} (he : eFd v l ∈ es ++ fs) :
    ∃ A cap, v = .slice A l.length cap ∧ l.length ≤ cap ∧ cap ≤ 9223372036854775807 ∧ Cells w w.heap.size A (fcells l) := by
  obtain ⟨A, cap, hv, h1, h2, _⟩ := h.form he
  simp only [eFd] at hv h1
  subst hv
  unfold maxLen at h2
  exact ⟨A, cap, rfl, h1, h2, h.cells he⟩
theorem fd_at {w : World} {B : Nat} {A : Option Addr} {l : List Fv} (h : Cells w B A (fcells l)) {k : Nat} {p : Fv} (hk : l[k]? = some p) :
    ∃ ad, A = some ad ∧ ad.block < B ∧ w.cell? (ad.add (k * 2)) = some (.int .i64 ((p.1.1 : Nat) : Int)) ∧ w.cell? ⟨(ad.add (k * 2)).block, (ad.add (k * 2)).off + 1, none⟩ = some p.2 := by
  obtain ⟨h1, h2⟩ := fcells_get l k p hk
  obtain ⟨ad, e, h3, h4⟩ := h _ _ h1
  obtain ⟨ad2, e2, _, h6⟩ := h _ _ h2
  obtain rfl := Option.some.inj (e.symm.trans e2)
  exact ⟨ad, e, h3, h4, by rw [← Addr.add_succ' (ad.add (k * 2)) 0, Addr.add_add]; exact h6⟩
/-- 'append(l, found{s, w})'. -/
theorem own_found {w0 w : World} {ops : Array Oper} {rest : List Oper} {o : Oper} {a : Act} {Q : Exit → Act → World → Prop} (hgd : o.guard = none) (s x : Operand)
    (ho : o.op = .call { callee := .builtin .append, args := #[s, x], argTypes := #[102, 102] })
    {v : Value} {l : List Fv} {es fs : List Ent} (hs : a.eval s = v) (h : Own w0 w (eFd v l :: es) fs) {p : Fv} (hp : p.2.oneCell' = true) {t' : TypeId} (hx : a.eval x = .slice (some ⟨w.heap.size, 0, none⟩) 1 1) (hb : l.length < 1099511627776)
    (hK : ∀ g cap w', Own w0 w' (eFd (.slice (some ⟨g, 0, none⟩) (l.length + 1) cap) (l ++ [p]) :: es) fs → wpList Tryd.prog ops Q rest (a.put o.dst (.slice (some ⟨g, 0, none⟩) (l.length + 1) cap)) w') :
    wpList Tryd.prog ops Q (o :: rest) a (w.alloc (.cells #[.int .i64 ((p.1.1 : Nat) : Int), p.2] t')) := by
  refine own_append_lit hgd s x _ ho Tryd.underlying102 infoFound rfl (by decide) hs h hx rfl (fun u hu => by simp at hu; rcases hu with rfl | rfl; rfl; exact hp) (by omega) (by unfold maxLen; omega) (by omega) ?_
  intro g cap w' ho
  refine hK g cap w' ?_
  unfold eFd
  rw [fcells_append]
  simpa [fcells] using ho
set_option maxRecDepth 100000 in
theorem clone_nil (w : World) : Calls Tryd.prog 51 #[.slice none 0 0] w fun e w' => e = .returned (.slice none 0 0) ∧ w' = w := by
  go_enter Tryd.func51, Tryd.ntmps51
  have hnil : ∀ W, (binOp .eql 27 (.slice none 0 0) (.slice none 0 0)).run Tryd.prog W = .ok (.bool true) W := fun W => Lib.run_eql_slice_nil W _ _ _ _ _ _ _ Tryd.underlying27
  go_wp2
  go_ret
  exact ⟨rfl, rfl⟩
/-- The clone of a word. -/
theorem clone_word (v : Value) (l : List Int) (w : World) {w0 : World} {es fs : List Ent} (h : Own w0 w es fs) (hm : eInts v l ∈ es ++ fs) (hs : ∀ x ∈ l, Small x) (h0 : l = [] → v = .slice none 0 0) (hl : l.length ≤ 17592186044416) :
    Calls Tryd.prog 51 #[v] w fun e w' => Hid (∃ v', e = .returned v' ∧ Own w w' [eInts v' l] []) := by
  by_cases e : l = []
  · subst e
    rw [h0 rfl]
    exact (clone_nil w).mono fun e w' ⟨h1, h2⟩ => ⟨_, h1, by subst h2; exact (own_start _).nil 3 1⟩
  · obtain ⟨A, c, rfl, _, _, hA⟩ := own_ints_at h hm hs
    have : l.length ≠ 0 := fun k => e (List.eq_nil_of_length_eq_zero k)
    exact (clone_any A c l w hA (by omega) hl).mono fun e w' he => by
      obtain ⟨A', cap, h1, h2⟩ := he.out
      exact ⟨_, h1, h2⟩
theorem own_one {w0 w : World} {es fs : List Ent} {v : Value} {l : List Int} (h : Own w0 w es fs) (hm : eInts v l ∈ es ++ fs) : v.oneCell' = true := by
  obtain ⟨A, cap, hv, _⟩ := h.form hm
  simp only [eInts] at hv
  rw [hv]; rfl
/-- Which states are known. -/
def kb (l : List Fd) (n : Nat) : List Bool := (List.range n).map fun t => decide (known l t)
theorem kb_length (l : List Fd) (n : Nat) : (kb l n).length = n := by simp [kb]
theorem kb_get (l : List Fd) {n t : Nat} (h : t < n) : (kb l n)[t]? = some (decide (known l t)) := by unfold kb; rw [List.getElem?_map, List.getElem?_range h]; rfl
theorem known_snoc (l : List Fd) (x : Fd) (t : Nat) : known (l ++ [x]) t ↔ known l t ∨ t = x.1 := by unfold known; simp
theorem kb_set (l : List Fd) (n : Nat) (x : Fd) : (kb l n).set x.1 true = kb (l ++ [x]) n := by
  refine List.ext_getElem? fun k => ?_
  rw [List.getElem?_set, kb_length]
  by_cases hk : k < n
  · rw [kb_get _ hk, kb_get _ hk]
    by_cases e : x.1 = k
    · rw [if_pos e, e, if_pos hk]
      congr 1
      exact (decide_eq_true ((known_snoc l x k).2 (.inr e.symm))).symm
    · rw [if_neg e]
      congr 1
      have := known_snoc l x k
      by_cases hk2 : known l k
      · rw [decide_eq_true hk2, decide_eq_true (this.2 (.inl hk2))]
      · rw [decide_eq_false hk2, decide_eq_false (fun q => (this.1 q).elim hk2 (fun q => e q.symm))]
  · rw [List.getElem?_eq_none (by rw [kb_length]; omega), List.getElem?_eq_none (by rw [kb_length]; omega)]
    split
    · rw [if_neg (by omega)]
    · rfl
theorem kb_none (n : Nat) : kb [] n = List.replicate n false := by
  unfold kb
  rw [show (fun t => decide (known [] t)) = fun (_ : Nat) => false from by funext t; exact decide_eq_false (by unfold known; simp), List.map_const']
  simp
end Go.Proofs.YtbciefeipiphiaaDoor.Rc

namespace Go.Proofs.YtbciefeipiphiaaDoor.Rc
open Go.RowKit Go.IntWalk Go.Proofs.YtbciefeipiphiaaDoor.Wd Go.Proofs.YtbciefeipiphiaaDoor.Wo Go.Proofs.YtbciefeipiphiaaDoor.Df

/-- A row of n values in block g. -/
abbrev rV (g n : Nat) : Value := .slice (some ⟨g, 0, none⟩) n n
def nilW (rs : List Fv) : Prop := ∀ p ∈ rs, p.1.2 = [] → p.2 = .slice none 0 0
def SInv (w1 wr : World) (d : Aut) (s N kg i : Nat) (pv : Value) : Prop :=
  ∃ rs : List Fv, Hunt d s (rs.map (·.1)) i ∧ Own w1 wr [eFd pv rs, eBools (rV kg N) (kb (rs.map (·.1)) N)] (eEachW rs) ∧ nilW rs
def SRow (w1 wi : World) (d : Aut) (N kg gh : Nat) (l : List Fd) (x : Fd) (wv : Value) (c : Nat) (pv : Value) : Prop :=
  ∃ rs : List Fv, rs.map (·.1) = addTo' d l x c ∧ Own w1 wi [eFd pv rs, eFd (rV gh 1) [(x, wv)], eBools (rV kg N) (kb (rs.map (·.1)) N)] (eEachW rs) ∧ nilW rs ∧ (x, wv) ∈ rs
theorem nilW_snoc {rs : List Fv} (h : nilW rs) (t : Nat) (w : List Int) (a : Int) (v : Value) : nilW (rs ++ [((t, w ++ [a]), v)]) := fun p hp => by
  rcases List.mem_append.1 hp with hp | hp
  · exact h p hp
  · simp at hp; subst hp; intro e; simp at e
theorem eEachW_snoc (rs : List Fv) (p : Fv) : eEachW (rs ++ [p]) = eEachW rs ++ [eInts p.2 p.1.2] := by unfold eEachW; rw [List.map_append]; rfl
/-- A result of the search. -/
def Found (d : Aut) (s : Nat) (w w' : World) (pv : Value) (rs : List Fv) : Prop := Hunt d s (rs.map (·.1)) rs.length ∧ Own w w' [] (eFd pv rs :: eEachW rs) ∧ nilW rs ∧ Own w w' [eFd pv rs] (eEachW rs)
set_option maxRecDepth 100000 in
set_option maxHeartbeats 4000000 in
theorem search_any (v : Value) (d : Aut) (s : Nat) (w : World) (h : DfaAt w w.heap.size v d) (hg : Df.Good d) (hs : s < d.next.length) :
    Calls Tryd.prog 65 #[v, .int .i64 s] w fun e w' => Hid (∃ pv rs, e = .returned pv ∧ Found d s w w' pv rs) := by
  obtain ⟨L, s0, A, c, F, cf, rfl, h⟩ := h
  obtain ⟨w1, hw1, hB1, hX, hd1⟩ := box_dfa w h
  have HB := Lib.hid hB1
  have HX := Lib.hid hX
  have HW := Lib.hid hw1
  have HD := Lib.hid hd1
  have HG := Lib.hid hg
  have heL := h.eL
  obtain ⟨n, hn⟩ := Int.eq_ofNat_of_zero_le (show 0 ≤ L by have := hg.l1; omega)
  subst hn
  have hn6 : n ≤ 6 := by have := hg.l6; omega
  have HL : Hid (d.L = (n : Int)) := heL
  have HLn : Hid (d.L.toNat = n) := by unfold Hid; omega
  have h40 := hg.n40
  have HSl := Lib.hid hs
  clear h hd1 hw1 hX hB1 hg heL
  generalize hm : d.fin.length = m at *
  clear hm
  generalize hN : d.next.length = N at *
  have HN := Lib.hid hN
  clear hN
  go_enter Tryd.func65, Tryd.ntmps65
  go_wp2_with (at_make; rw [← HW.out]; refine mk_bools rfl _ _ rfl N rfl rfl (by omega) ?_)
  clear HW
  intro w2 ho2
  have HO := Lib.hid ho2
  have HX2 := Lib.hid (HX.out.on ho2.below)
  clear ho2
  obtain ⟨hk1, hk2⟩ := own_bools_cell HO.out List.mem_cons_self (by simp) (j := s) (x := false) (by simp [hs])
  have HS0 : Hid (SInv w1 ((w2.setCell ⟨w1.heap.size, s, none⟩ (.bool true)).alloc (.cells #[.int .i64 (s : Int), .slice none 0 0] 105)) d s N w1.heap.size 0 (.slice (some ⟨w2.heap.size, 0, none⟩) 1 1)) := by
    have h1 := own_bools_set HO.out (by simp) s true
    rw [← kb_none, kb_set [] N (s, [])] at h1
    have h2 := h1.lit 105 2 1 #[.int .i64 (s : Int), .slice none 0 0] rfl (by simp [maxLen])
    rw [show (w2.setCell ⟨w1.heap.size, s, none⟩ (.bool true)).heap.size = w2.heap.size by simp [World.setCell]] at h2
    refine ⟨[((s, []), .slice none 0 0)], hunt_start d s, ?_, fun p hp _ => by simp at hp; subst hp; rfl⟩
    exact (h2.nil 3 1).fin
  generalize hkg : w1.heap.size = kg at HS0 hk1 hk2 ⊢
  have HKG := Lib.hid hkg
  clear hkg HO
  go_wp2
  clear hk1 hk2 HX2
  generalize w2.heap.size = g2 at *
  go_loopw [6, 7] (fun pv i wr => ∃ (k : Nat), k ≤ 40 ∧ i = .int .i64 k ∧ Hid (SInv w1 wr d s N kg k pv)) (fun _ i _ => 41 - (intOf i).toNat)
  case atStart => exact ⟨0, by omega, rfl, HS0⟩
  case round =>
    clear HS0
    obtain ⟨k, hk, rfl, HS⟩ := hrel
    obtain ⟨rs, hhunt, hown, hnil⟩ := HS.out
    obtain ⟨Ap, cp, hpv, hcp, _, hpa⟩ := own_fd hown (v := u6) (l := rs) (by simp)
    subst hpv
    have hbw := hown.below
    have HXw := Lib.hid (HX.out.on hbw)
    have HDw := Lib.hid (HD.out.on hbw)
    have HH := Lib.hid hhunt
    have HO := Lib.hid hown
    have HNil := Lib.hid hnil
    have hr40 : rs.length ≤ 40 := by have := hhunt.part.n40; simpa using this
    clear HS hhunt hown hnil hbw
    by_cases hlt : k < rs.length
    · obtain ⟨⟨x, wv⟩, hx⟩ : ∃ q, rs[k]? = some q := ⟨_, List.getElem?_eq_getElem hlt⟩
      have hxl : (rs.map (·.1))[k]? = some x := by rw [List.getElem?_map, hx]; rfl
      have hx1 := HH.out.lt HG.out (by rw [HN.out]; exact hs) (List.mem_of_getElem? hxl)
      obtain ⟨adp, hAp, hadp, hp0, hp1⟩ := fd_at hpa hx
      subst hAp
      simp only at hp0 hp1
      obtain ⟨ad, A', c', e0, hadb, hcell1, hrc, hcc, hri⟩ := HD.out.rows x.1 _ (List.getElem?_eq_getElem hx1)
      subst e0
      have hcell := (HO.out.below.cell (p := ad.add x.1) (by rw [Wd.block_add]; exact hadb)).trans hcell1
      have HRI := Lib.hid hri
      have hrl := HG.out.row _ (List.getElem_mem hx1)
      have HRow : Hid (d.next[x.1]? = some (d.next[x.1])) := List.getElem?_eq_getElem hx1
      have HX1 := Lib.hid hx1
      have HR0 : Hid (SRow w1 (wr.alloc (.cells #[.int .i64 (x.1 : Int), wv] 105)) d N kg wr.heap.size (rs.map (·.1)) x wv 0 (.slice (some adp) rs.length cp)) := by
        have h1 := HO.out.lit 105 2 1 #[.int .i64 (x.1 : Int), wv] rfl (by simp [maxLen])
        exact ⟨rs, rfl, h1.two, HNil.out, List.mem_of_getElem? hx⟩
      have hwo := own_one HO.out (v := wv) (l := x.2) (List.mem_append_right _ (List.mem_map.2 ⟨(x, wv), List.mem_of_getElem? hx, rfl⟩))
      obtain ⟨Aw, cw, hwv, _, _, _⟩ := HO.out.form (e := eInts wv x.2) (List.mem_append_right _ (List.mem_map.2 ⟨(x, wv), List.mem_of_getElem? hx, rfl⟩))
      simp only [eInts] at hwv
      have hc2 := HXw.out.c2
      have hlx := HXw.out.lt
      have e1 : (x.1 : Int) < (N : Int) := by have := HN.out; omega
      have HNx := Lib.hid (HH.out.next HG.out (by rw [HN.out]; exact hs) hxl)
      rw [HLn.out] at HNx
      have hk9 : ad.block < wr.heap.size := Nat.lt_of_lt_of_le hadb HO.out.below.size
      have HXL := Lib.hid hxl
      clear hx hxl hpa hadp hri hrc hcc hcell1 HNil HDw
      generalize d.next[x.1] = r0 at *
      clear hx1
      have hrn : r0.length ≤ n := by have := HL.out; omega
      have hrn2 : n ≤ r0.length := by have := HL.out; omega
      clear hrl HO hwo
      generalize x.2.length = lw at *
      subst hwv
      have hcell5 := ((below_alloc wr (.cells #[.int .i64 (x.1 : Int), .slice Aw lw cw] 105)).cell (p := ad.add x.1) (by rw [Wd.block_add]; exact hk9)).trans hcell
      clear hcell
      go_wp2
      clear hcell5 hc2 hp0 hp1 hlx e1
      have hxlen := HH.out.srch.len k x HXL.out
      have hxsm : ∀ a ∈ x.2, Small a := fun a ha => by
        have h1 := (HH.out.srch.ok x (List.mem_of_getElem? HXL.out)).1 a ha
        have := HL.out
        exact ⟨by omega, by omega⟩
      have HSm := Lib.hid hxsm
      clear hxsm
      generalize wr.heap.size = gh at *
      go_loopw [6, 38] (fun pv i wi => ∃ (q : Nat), q ≤ r0.length ∧ i = .int .i64 q ∧ Hid (SRow w1 wi d N kg gh (rs.map (·.1)) x (.slice Aw lw cw) q pv)) (fun _ i _ => r0.length - (intOf i).toNat)
      case atStart => exact ⟨0, by omega, rfl, HR0⟩
      case round =>
        clear HR0
        obtain ⟨q, hq, rfl, HR⟩ := hrel
        obtain ⟨rs2, hmap, hown, hnil, hmem⟩ := HR.out
        have HMem := Lib.hid hmem
        have HNil := Lib.hid hnil
        have HMap := Lib.hid hmap
        have hbw := hown.below
        by_cases hqn : q < r0.length
        · obtain ⟨r1, hr1, _, hr3, hr4, hr5⟩ := HG.out.at_ HX1.out (a := q) (by rw [HL.out]; omega)
          obtain rfl := Option.some.inj (HRow.out.symm.trans hr1)
          obtain ⟨ar, e0, k1, k2, _⟩ := (HRI.out.on hbw).get hr4
          subst e0
          rw [HN.out] at hr5
          have hkc := own_bools_cell (g := kg) (n := N) (cap := N) (l := kb (rs2.map (·.1)) N) hown (List.mem_append_left _ (by simp)) (kb_length _ _) (kb_get (rs2.map (·.1)) hr5)
          obtain ⟨hk1, hk2⟩ := hkc
          have e1 : (Df.step d x.1 q : Int) < (N : Int) := by omega
          have HLen : Hid (rs2.length < 1099511627776) := by
            have h1 := congrArg List.length hmap
            have h2 := addTo'_length d (rs.map (·.1)) x q
            rw [List.length_map] at h1 h2
            unfold Hid; omega
          by_cases hkn : known (rs2.map (·.1)) (Df.step d x.1 q)
          · have HR1 : Hid (SRow w1 wr d N kg gh (rs.map (·.1)) x (.slice Aw lw cw) (q + 1) u6) := by
              refine ⟨rs2, ?_, hown, hnil, hmem⟩
              rw [addTo', ← hmap]
              unfold addW
              rw [if_pos hkn]
            rw [decide_eq_true hkn] at hk1
            clear hkn hr1 hr3 hr4 hr5 hown hbw HR hmap hnil hmem
            generalize Df.step d x.1 q = t at *
            go_wp2
            go_roundw
            case rel => exact ⟨q + 1, by omega, by go_num, HR1⟩
            case measure => simp [intOf]; omega
          · have hold : addTo' d (rs.map (·.1)) x (q + 1) = rs2.map (·.1) ++ [(Df.step d x.1 q, x.2 ++ [(q : Int)])] := by
              rw [addTo', ← hmap]; unfold addW; rw [if_neg hkn]
            have HOld := Lib.hid hold
            have h3 := own_bools_set (hown.re [2, 0, 1] 3 rfl (by decide)) (kb_length _ _) (Df.step d x.1 q) true
            rw [kb_set _ N (Df.step d x.1 q, x.2 ++ [(q : Int)])] at h3
            have HO3 := Lib.hid h3
            have hw3 := (h3.cell (t := 105) (sz := 2) (n := 1) (cap := 1) (g := gh) (xs := [.int .i64 (x.1 : Int), .slice Aw lw cw]) (j := 1) (by simp [eFd, fcells]) rfl).1
            have HCl := Lib.hid (clone_word (.slice Aw lw cw) x.2 _ h3 (List.mem_append_right _ (List.mem_map.2 ⟨_, hmem, rfl⟩)) HSm.out (fun e => hnil _ hmem e) (by omega))
            have hxl1 : x.2.length < 17592186044416 := by omega
            rw [decide_eq_false hkn] at hk1
            clear hkn hr1 hr3 hr4 hr5 hown hbw HR hmap hnil hmem hold h3
            generalize Df.step d x.1 q = t at *
            go_wp2_with fail
            refine HCl.out.mono ?_
            rintro e w4 he
            obtain ⟨v', h1, ho⟩ := he.out
            subst h1
            have HO4 := Lib.hid (HO3.out.join ho)
            clear he ho HCl HO3 hw3 hk1 hk2 k2
            go_wp2_with (at_builtin; refine own_int (by rfl) _ _ (by rfl) (by rfl) HO4.out (by rfl) hxl1 ?_)
            intro g5 cap5 w5 ho5
            have HO5 := Lib.hid (ho5.re [2, 0, 3, 1] 4 rfl (by decide))
            clear ho5 HO4
            go_wp2_with (at_builtin; refine own_found (p := ((t, x.2 ++ [(q : Int)]), .slice (some ⟨g5, 0, none⟩) (x.2.length + 1) cap5)) (by rfl) _ _ (by rfl) (by rfl) HO5.out rfl (by rfl) HLen.out ?_)
            intro g6 cap6 w6 ho6
            have HR1 : Hid (SRow w1 w6 d N kg gh (rs.map (·.1)) x (.slice Aw lw cw) (q + 1) (.slice (some ⟨g6, 0, none⟩) (rs2.length + 1) cap6)) := by
              refine ⟨rs2 ++ [((t, x.2 ++ [(q : Int)]), .slice (some ⟨g5, 0, none⟩) (x.2.length + 1) cap5)], ?_, ?_, nilW_snoc HNil.out _ _ _ _, List.mem_append_left _ HMem.out⟩
              · rw [HOld.out, List.map_append]; rfl
              · rw [List.map_append]
                refine (ho6.two.fin).weak (fun e he => ?_)
                rw [eEachW_snoc] at he
                rcases List.mem_append.1 he with he | he
                · exact List.mem_cons_of_mem _ he
                · simp at he; subst he
                  simp [eInts]
            clear ho6 HO5 HOld HMem HNil HMap HLen
            go_wp2
            go_roundw
            case rel => exact ⟨q + 1, by omega, by go_num, HR1⟩
            case measure => simp [intOf]; omega
        · obtain rfl : q = r0.length := by omega
          have hqn' : r0.length = n := by omega
          have HEnd : Hid (SInv w1 wr d s N kg (k + 1) u6) := by
            rw [hqn'] at hmap
            refine ⟨rs2, by rw [hmap]; exact HNx.out, ?_, hnil⟩
            exact hown.two.tail
          have hk39 : k + 1 ≤ 40 := by omega
          clear HR hown hmap hmem HMem HNil HMap hbw hnil
          go_wp2
          go_roundw
          case rel => exact ⟨k + 1, by omega, by go_num, HEnd⟩
          case measure => simp [intOf]; omega
    · obtain rfl : k = rs.length := by have := HH.out.part.le; simp at this; omega
      have HEnd : Hid (Found d s w wr (.slice Ap rs.length cp) rs) := by
        refine ⟨HH.out, (HO.out.base HB.out).fin.tail.weak (fun e he => ?_), HNil.out, (HO.out.base HB.out).two.tail⟩
        exact he
      clear HO HNil HXw HDw hpa
      go_wp2
      go_ret
      exact ⟨_, _, rfl, HEnd.out⟩
end Go.Proofs.YtbciefeipiphiaaDoor.Rc

namespace Go.Proofs.YtbciefeipiphiaaDoor.Rc
open Go.RowKit Go.IntWalk Go.Proofs.YtbciefeipiphiaaDoor.Wd Go.Proofs.YtbciefeipiphiaaDoor.Wo Go.Proofs.YtbciefeipiphiaaDoor.Df

/-- What firstFrom returns. -/
def FF (d : Aut) (s : Nat) (w : World) (e : Ending) (w' : World) : Prop :=
  (∃ u wv, firstW d s = some u ∧ e = .returned (.tuple #[wv, .bool true]) ∧ Own w w' [] [eInts wv u]) ∨ (firstW d s = none ∧ e = .returned (.tuple #[.slice none 0 0, .bool false]) ∧ Below w.heap.size w w')
def noneYet (d : Aut) (l : List Fd) (k : Nat) : Prop := ∀ j y, j < k → l[j]? = some y → finA d y.1 = false
theorem noneYet_zero (d : Aut) (l : List Fd) : noneYet d l 0 := fun j y hj => by omega
theorem noneYet_succ {d : Aut} {l : List Fd} {k : Nat} {x : Fd} (h : noneYet d l k) (hx : l[k]? = some x) (hf : finA d x.1 = false) : noneYet d l (k + 1) := fun j y hj hy => by
  by_cases e : j < k
  · exact h j y e hy
  · obtain rfl : j = k := by omega
    obtain rfl := Option.some.inj (hx.symm.trans hy)
    exact hf
theorem noneYet_all {d : Aut} {l : List Fd} {k : Nat} (h : noneYet d l k) (hk : l.length ≤ k) : ∀ x ∈ l, finA d x.1 = false := fun x hx => by
  obtain ⟨j, hj, rfl⟩ := List.getElem_of_mem hx
  exact h j _ (by omega) (List.getElem?_eq_getElem hj)
set_option maxRecDepth 100000 in
set_option maxHeartbeats 2000000 in
theorem firstFrom_any (v : Value) (d : Aut) (s : Nat) (w : World) (h : DfaAt w w.heap.size v d) (hg : Df.Good d) (hs : s < d.next.length) :
    Calls Tryd.prog 40 #[v, .int .i64 s] w fun e w' => Hid (FF d s w e w') := by
  have HV := h
  obtain ⟨L, s0, A, c, F, cf, rfl, h⟩ := h
  obtain ⟨w1, hw1, hB1, hX, hd1⟩ := box_dfa w h
  have HB := Lib.hid hB1
  have HX := Lib.hid hX
  have HW := Lib.hid hw1
  have HD := Lib.hid hd1
  have HG := Lib.hid hg
  have HSe := Lib.hid (search_any _ d s w1 (HV.on hB1) hg hs)
  have HSl := Lib.hid hs
  have hc0 := hX.c0
  have hc1 := hX.c1
  have hc2 := hX.c2
  have hc3 := hX.c3
  have hfn := hg.fin
  clear h hd1 hw1 hX hB1 hg HV
  generalize hm : d.fin.length = m at *
  generalize hN : d.next.length = N at *
  have HN := Lib.hid hN
  have hmN : N ≤ m := by omega
  clear hN hm hfn
  go_enter Tryd.func40, Tryd.ntmps40
  go_wp2_with fail
  rw [← HW.out]
  clear HW
  refine HSe.out.mono ?_
  rintro e w2 he
  obtain ⟨pv, rs, h1, hf⟩ := he.out
  subst h1
  have HF := Lib.hid hf
  obtain ⟨Ap, cp, hpv, hcp, hcp2, hpa⟩ := own_fd hf.2.1 (v := pv) (l := rs) (by simp)
  subst hpv
  have HPA := Lib.hid hpa
  have hbw := hf.2.1.below
  have HX := Lib.hid (HX.out.on hbw)
  have HD := Lib.hid (HD.out.on hbw)
  have hr40 : rs.length ≤ 40 := by have := hf.1.part.n40; simpa using this
  have HY : Hid (noneYet d (rs.map (·.1)) 0) := noneYet_zero _ _
  clear he hf hpa hbw HSe hc0 hc1 hc2 hc3
  go_wp2
  go_loopw [12] (fun i wr => ∃ (k : Nat), k ≤ rs.length ∧ i = .int .i64 k ∧ Hid (noneYet d (rs.map (·.1)) k) ∧ Hid (Below w2.heap.size w2 wr)) (fun i _ => rs.length - (intOf i).toNat)
  case atStart => exact ⟨0, by omega, rfl, HY, Below.refl _ _⟩
  case round =>
    clear HY
    obtain ⟨k, hk, rfl, HS, HBr⟩ := hrel
    by_cases hlt : k < rs.length
    · obtain ⟨⟨x, wv⟩, hx⟩ : ∃ q, rs[k]? = some q := ⟨_, List.getElem?_eq_getElem hlt⟩
      have hxl : (rs.map (·.1))[k]? = some x := by rw [List.getElem?_map, hx]; rfl
      have hx1 := HF.out.1.lt HG.out (by rw [HN.out]; exact HSl.out) (List.mem_of_getElem? hxl)
      obtain ⟨adp, hAp, hadp, hp0', hp1'⟩ := fd_at HPA.out hx
      subst hAp
      simp only at hp0' hp1'
      have hp0 := (HBr.out.cell (p := adp.add (k * 2)) (by rw [Wd.block_add]; exact hadp)).trans hp0'
      have hp1 := (HBr.out.cell (p := ⟨(adp.add (k * 2)).block, (adp.add (k * 2)).off + 1, none⟩) (by show (adp.add (k * 2)).block < _; rw [Wd.block_add]; exact hadp)).trans hp1'
      obtain ⟨Aw, cw, hwv, _, _, _⟩ := HF.out.2.1.form (e := eInts wv x.2) (List.mem_append_right _ (List.mem_cons_of_mem _ (List.mem_map.2 ⟨(x, wv), List.mem_of_getElem? hx, rfl⟩)))
      simp only [eInts] at hwv
      have HBa := Lib.hid (HBr.out.trans ((below_alloc wr (.cells #[.int .i64 (x.1 : Int), wv] 105)).mono HBr.out.size))
      have HOw : Hid (Own w (wr.alloc (.cells #[.int .i64 (x.1 : Int), wv] 105)) [] [eInts wv x.2]) := by
        refine ((HF.out.2.1.on HBa.out).base HB.out).weak (fun e he => ?_)
        simp at he; subst he
        exact List.mem_cons_of_mem _ (List.mem_map.2 ⟨(x, wv), List.mem_of_getElem? hx, rfl⟩)
      obtain ⟨adf, hF, hadf, hcf, _⟩ := (HD.out.on HBa.out).fins.at_ (HG.out.fin_at hx1)
      subst hF
      have hc3 := (HX.out.on HBa.out).c3
      rw [HN.out] at hx1
      have e1 : (x.1 : Int) < (m : Int) := by omega
      rcases hfin : finA d x.1 with _ | _
      · have HN1 := Lib.hid (noneYet_succ HS.out hxl hfin)
        rw [hfin] at hcf
        clear hfin hx hxl hx1 hp0' hp1' hadp HOw
        generalize x.2.length = lw at *
        subst hwv
        go_wp2
        go_roundw
        case rel => exact ⟨k + 1, by omega, by go_num, HN1, HBa⟩
        case measure => simp [intOf]; omega
      · have HE : Hid (firstW d s = some x.2) := HF.out.1.srch.first HG.out (by rw [HN.out]; exact HSl.out) (by simp) hxl hfin HS.out
        rw [hfin] at hcf
        have hl := congrArg Value.oneCell' hwv
        clear hfin hx hxl hx1 hp0' hp1' hadp HBa
        generalize hlw : x.2.length = lw at *
        clear hlw hl
        generalize x.2 = u at *
        subst hwv
        go_wp2
        go_ret2
        exact .inl ⟨_, _, HE.out, rfl, HOw.out⟩
    · obtain rfl : k = rs.length := by omega
      have HE : Hid (firstW d s = none) := HF.out.1.srch.none HG.out (by rw [HN.out]; exact HSl.out) (by simp) (noneYet_all HS.out (by simp))
      have HBz := Lib.hid (HB.out.trans ((HF.out.2.1.below.trans (HBr.out.mono HF.out.2.1.below.size)).mono HB.out.size))
      clear HS
      go_wp2
      go_ret2
      exact .inr ⟨HE.out, rfl, HBz.out⟩
/-- What a function returns that gives a list of ints and an error. -/
def IntsR (out : List Int × Nat) (w : World) (e : Ending) (w' : World) : Prop := ∃ wv, e = .returned (.tuple #[wv, errV out.2]) ∧ Own w w' [] [eInts wv out.1]
theorem own_nil {w w' : World} (h : Below w.heap.size w w') : Own w w' [] [eInts (.slice none 0 0) []] := (((own_start w).on h).nil 3 1).fin
def firstOut (d : Aut) : List Int × Nat := if dchk d = 0 then (match firstW d d.s.toNat with | some u => (u, 0) | none => ([], 5)) else ([], dchk d)
theorem firstOut_some {d : Aut} {u : List Int} (h : dchk d = 0) (hf : firstW d d.s.toNat = some u) : firstOut d = (u, 0) := by unfold firstOut; rw [if_pos h, hf]
end Go.Proofs.YtbciefeipiphiaaDoor.Rc
