/- The contracts of package small as the laws' walks use them. The walks of package safe. The walks of package safe's Prefixes, Rest, Always, Ever and Class, and their contracts for laws. -/
import Derived.Test.YtbciefeipiphiaaDoorSame2
import Derived.Test.YtbciefeipiphiaaDoorLeast
import Derived.Test.YtbciefeipiphiaaDoorSafeM
import Derived.Test.YtbciefeipiphiaaDoorReached
import Derived.StillTailTactics

namespace Go.Proofs.YtbciefeipiphiaaDoor.Mp
open Go.RowKit Go.IntWalk Go.Proofs.YtbciefeipiphiaaDoor.Wd Go.Proofs.YtbciefeipiphiaaDoor.Wo Go.Proofs.YtbciefeipiphiaaDoor.Df Go.Proofs.YtbciefeipiphiaaDoor.Rc Go.Proofs.YtbciefeipiphiaaDoor.Sm

end Go.Proofs.YtbciefeipiphiaaDoor.Mp

namespace Go.Proofs.YtbciefeipiphiaaDoor.Sa
open Go.RowKit Go.IntWalk Go.Proofs.YtbciefeipiphiaaDoor.Wd Go.Proofs.YtbciefeipiphiaaDoor.Wo Go.Proofs.YtbciefeipiphiaaDoor.Df Go.Proofs.YtbciefeipiphiaaDoor.Rc Go.Proofs.YtbciefeipiphiaaDoor.Sm Go.Proofs.YtbciefeipiphiaaDoor.Mp

/-! ### slices.Contains at ints -/
theorem take_miss {z : List Int} {a : Int} {k : Nat} (h : a ∉ z.take k) (hk : k < z.length) (he : ¬ z[k] = a) : a ∉ z.take (k + 1) := by
  rw [← List.take_append_getElem hk]
  intro h2
  rcases List.mem_append.1 h2 with h2 | h2
  · exact h h2
  · simp at h2; exact he h2.symm
set_option maxRecDepth 100000 in
set_option maxHeartbeats 1000000 in
theorem sidx_any (A : Option Addr) (c : Nat) (z : List Int) (a : Int) (w : World) (hA : IntsAt w w.heap.size A z) (hz : z.length ≤ 17592186044416) :
    Calls Tryd.prog 77 #[.slice A z.length c, .int .i64 a] w fun e w' => Hid (∃ r : Int, e = .returned (.int .i64 r) ∧ decide (0 ≤ r) = decide (a ∈ z)) ∧ w = w' := by
  have HA := Lib.hid hA
  have HT : Hid (a ∉ z.take 0) := by simp [Hid]
  clear hA
  go_enter Tryd.func77, Tryd.ntmps77
  go_wp2
  go_loop [8] (fun j => ∃ (k : Nat), k ≤ z.length ∧ j = .int .i64 k ∧ Hid (a ∉ z.take k)) (fun j => z.length - (intOf j).toNat)
  case atStart => exact ⟨0, by omega, rfl, HT⟩
  case round =>
    clear HT
    obtain ⟨k, hk, rfl, HT⟩ := hrel
    by_cases hlt : k < z.length
    · obtain ⟨ad, rfl, hadb, hcell, hs1, hs2⟩ := HA.out.at_ k hlt
      by_cases he : z[k] = a
      · have HR : Hid (a ∈ z) := by rw [← he]; exact List.getElem_mem hlt
        have he1 : (a == z[k]) = true := by rw [he]; simp
        clear he HT
        generalize z[k] = x at *
        go_wp2
        go_ret
        exact ⟨⟨k, rfl, ⟨fun _ => HR.out, fun _ => by omega⟩⟩, rfl⟩
      · have HN := Lib.hid (take_miss HT.out hlt he)
        have he1 : (a == z[k]) = false := by simpa using fun e => he e.symm
        clear he HT
        generalize z[k] = x at *
        go_wp2
        go_round
        case rel => exact ⟨k + 1, by omega, by go_num, HN⟩
        case measure => simp [intOf]; omega
    · have HR : Hid (a ∉ z) := by
        have h := HT.out
        rwa [List.take_of_length_le (by omega)] at h
      clear HT
      go_wp2
      go_ret
      exact ⟨⟨-1, rfl, ⟨fun h => absurd h (by decide), fun h => absurd h HR.out⟩⟩, rfl⟩
set_option maxRecDepth 100000 in
theorem contains_any (A : Option Addr) (c : Nat) (z : List Int) (a : Int) (w : World) (hA : IntsAt w w.heap.size A z) (hz : z.length ≤ 17592186044416) {b : Bool} (hb : decide (a ∈ z) = b) :
    Calls Tryd.prog 67 #[.slice A z.length c, .int .i64 a] w fun e w' => e = .returned (.bool b) ∧ w' = w := by
  have HI := Lib.hid (sidx_any A c z a w hA hz)
  rw [hb] at HI
  clear hA hz hb
  generalize z.length = n at *
  go_enter Tryd.func67, Tryd.ntmps67
  go_wp2_with fail
  refine HI.out.mono ?_
  rintro e w2 ⟨he, rfl⟩
  obtain ⟨r, rfl, hr⟩ := he.out
  have HR := Lib.hid hr
  clear he HI hr
  go_wp2
  go_ret
  exact ⟨by rw [← HR.out]; rfl, rfl⟩
theorem mem_upto {n s : Nat} {p : Nat → Bool} (h : s < n) : decide ((s : Int) ∈ upto n p) = p s := by
  refine Bool.eq_iff_iff.2 ?_
  rw [decide_eq_true_iff]
  unfold upto
  rw [List.mem_map]
  constructor
  · rintro ⟨t, ht, e⟩
    obtain rfl : t = s := by omega
    exact (List.mem_filter.1 ht).2
  · intro h2
    exact ⟨s, List.mem_filter.2 ⟨List.mem_range.2 h, h2⟩, rfl⟩
theorem upto_small {n : Nat} (h : n ≤ 40) (p : Nat → Bool) : ∀ x ∈ upto n p, Small x := fun x hx => by
  unfold upto at hx
  obtain ⟨t, ht, rfl⟩ := List.mem_map.1 hx
  have := List.mem_range.1 (List.mem_filter.1 ht).1
  exact ⟨by omega, by omega⟩
theorem own_ints_is {w0 w : World} {A : Option Addr} {n c : Nat} {l : List Int} {es fs : List Ent} (h : Own w0 w es fs) (hm : eInts (.slice A n c) l ∈ es ++ fs) (_hl : l.length = n) (hs : ∀ x ∈ l, Small x) : IntsAt w w.heap.size A l := by
  obtain ⟨A', cap, hv, _, _, hi⟩ := own_ints_at h hm hs
  simp only [Value.slice.injEq] at hv
  rw [hv.1]; exact hi
/-- What a function gives that makes an automaton of one. -/
def mkO (K : Aut → Aut) (d : Aut) : Aut × Nat := if dchk d = 0 then (K d, 0) else (zeroA, dchk d)
theorem mkO_ok {K : Aut → Aut} {d : Aut} (g : Df.Good d) : mkO K d = (K d, 0) := if_pos (dchk_iff.2 g)
theorem mkO_bad {K : Aut → Aut} {d : Aut} (h : dchk d ≠ 0) : mkO K d = (zeroA, dchk d) := if_neg h

/-! ### judged -/
theorem judge_fins {f : Bool → Bool → Bool} {d : Aut} (g : Df.Good d) : (List.range d.fin.length).map (fun s => f (finA d s) (isAlive d s)) = (judge f d).fin := by rw [g.fin]; rfl
set_option linter.unusedSimpArgs false in
set_option maxRecDepth 100000 in
set_option maxHeartbeats 4000000 in
theorem judged_any (fn : Nat) (hcf : ∀ args W, (callFunc fn args).run Tryd.prog W = .ok (.enter fn args) W) (J : Bool → Bool → Bool)
    (hF : ∀ x y W, Calls Tryd.prog fn #[.bool x, .bool y] W fun e w' => e = .returned (.bool (J x y)) ∧ w' = W) (v : Value) (d : Aut) (w : World) (h : DfaAt w w.heap.size v d) :
    Calls Tryd.prog 48 #[v, .func (.func fn) #[] #[]] w fun e w' => Hid (∃ x, e = .returned (.tuple #[x, errV (mkO (judge J) d).2]) ∧ DfaOwn w w' x (mkO (judge J) d).1) := by
  have HV := h
  obtain ⟨L, s, A, c, F, cf, rfl, h⟩ := h
  obtain ⟨w1, hw1, hB1, hX, hd1⟩ := box_dfa w h
  have HB := Lib.hid hB1
  have HW := Lib.hid hw1
  have hres := below_alloc w1 (.cells #[.int .i64 0, .int .i64 0, .slice none 0 0, .slice none 0 0] 25)
  have HX := Lib.hid (hX.on hres)
  have hc0 := HX.out.c0
  have hc1 := HX.out.c1
  have hc2 := HX.out.c2
  have hc3 := HX.out.c3
  have HO := Lib.hid ((own_start w1).dfa (.int .i64 0) (.int .i64 0) (.slice none 0 0) (.slice none 0 0))
  have HV := Lib.hid ((HV.on hB1).on hres)
  have hsz : w1.heap.size = w.heap.size + 1 := by rw [hw1]; simp
  rw [hsz] at HO
  have HF := Lib.hid hF
  clear hF
  rcases g1 : dchk d with _ | e0
  · have hg := dchk_iff.1 g1
    have HG := Lib.hid hg
    have HC := Lib.hid (fun v W (hA : DfaAt W W.heap.size v d) => copy_ok v d W hA g1)
    have HAl := Lib.hid (fun v W (hA : DfaAt W W.heap.size v d) => alive_any v d W hA)
    rw [aliveR_ok g1] at HAl
    have HUs := Lib.hid (upto_small hg.n40 (isAlive d))
    have hm0 : 0 < d.fin.length := by have := hg.fin; have := hg.n1; omega
    have hm4 : d.fin.length ≤ 40 := by have := hg.fin; have := hg.n40; omega
    have HUl : Hid ((upto d.next.length (isAlive d)).length ≤ 40) := by have := upto_length d.next.length (isAlive d); have := hg.n40; unfold Hid; omega
    clear h hd1 hw1 hX hB1 hres hsz g1 hg
    obtain ⟨U, hU⟩ : ∃ U, U = upto d.next.length (isAlive d) := ⟨_, rfl⟩
    rw [← hU] at HAl HUl HUs
    have HU := Lib.hid hU
    clear hU
    obtain ⟨n, hn⟩ : ∃ n, d.next.length = n := ⟨_, rfl⟩
    obtain ⟨m, hm⟩ : ∃ m, d.fin.length = m := ⟨_, rfl⟩
    rw [hm] at hm0 hm4 hc3 HV HW HX
    rw [hn] at hc2 HV HW HX
    rw [hn, hm]
    have HM := Lib.hid hm
    have HN := Lib.hid hn
    clear hm hn
    go_enter Tryd.func48, Tryd.ntmps48
    go_wp2_with fail
    rw [← HW.out]
    refine (HAl.out _ _ HV.out).mono ?_
    rintro e w2 he
    obtain ⟨wv, h1, ho⟩ := he.out
    obtain ⟨AA, cA, h2, _, _, _⟩ := own_ints_at ho (List.mem_append_right _ List.mem_cons_self) HUs.out
    subst h2
    have h1 : e = .returned (.tuple #[.slice AA U.length cA, .nilIface]) := h1
    subst h1
    have hb := ho.below
    have HX := Lib.hid (HX.out.on hb)
    have HV := Lib.hid (HV.out.on hb)
    have HO := Lib.hid (HO.out.join ho)
    have hul : U.length ≤ 40 := HUl.out
    clear he ho hb HAl hc0 hc1 hc2 hc3 HUl
    have hc0 := HX.out.c0
    have hc1 := HX.out.c1
    have hc2 := HX.out.c2
    have hc3 := HX.out.c3
    obtain ⟨lu, hlu⟩ : ∃ lu, U.length = lu := ⟨_, rfl⟩
    have HLu := Lib.hid hlu
    rw [hlu] at hul
    rw [List.append_nil, hlu] at HO
    rw [hlu]
    clear hlu
    go_wp2_with fail
    refine (HC.out _ _ HV.out).mono ?_
    rintro e w3 he
    obtain ⟨x, rfl, nv, fv, rs, rfl, hrs, hown, hsm, hL, hS⟩ := he.out
    have HFl := Lib.hid (flags_new HO.out hown)
    obtain ⟨gf, cap, hfv⟩ := owns_some (hown.each _ (List.mem_cons_of_mem _ List.mem_cons_self)) (by show 0 < d.fin.length; rw [HM.out]; exact hm0)
    obtain ⟨An, cn, hnv, _⟩ := hown.form (e := eRows nv (rs.map (·.1))) (by simp)
    change fv = .slice (some ⟨gf, 0, none⟩) d.fin.length cap at hfv
    rw [HM.out] at hfv
    have hrl : rs.length = n := by rw [← HN.out, hrs, List.length_map]
    change nv = .slice An (rs.map (·.1)).length cn at hnv
    rw [List.length_map, hrl] at hnv
    subst hfv hnv
    have HSm := Lib.hid hsm
    have HLS := Lib.hid (And.intro hL hS)
    have HR := Lib.hid hrs
    clear he hown hsm hL hS hrs HC hc0 hc1 hc2 hc3 HO hrl HX HV
    obtain ⟨w4, hw4⟩ : ∃ w4, w4 = w3.alloc (.cells #[.int .i64 d.L, .int .i64 d.s, .slice An n cn, .slice (some ⟨gf, 0, none⟩) m cap] 25) := ⟨_, rfl⟩
    rw [← hw4] at HFl
    have HW4 := Lib.hid hw4
    clear hw4
    obtain ⟨f, hf⟩ : ∃ f : Nat → Bool, f = fun k => J (finA d k) (isAlive d k) := ⟨_, rfl⟩
    have HS : Hid (Flags w1 w4 w3.heap.size (w.heap.size + 1) d.L d.s (.slice An n cn) (.slice (some ⟨gf, 0, none⟩) m cap) (flipTo f d.fin 0) rs [eInts (.slice AA lu cA) U]) := by rw [flip_zero]; exact HFl.out
    have hg3 := HFl.out.cell (j := 3) rfl
    rw [HW4.out] at hg3
    have HFf := Lib.hid hf
    clear HFl hf
    go_wp2
    clear hg3
    rw [← HW4.out]
    generalize w3.heap.size = g at *
    clear HW4
    go_loopw [32] (fun i wr => ∃ (k : Nat), k ≤ m ∧ i = .int .i64 k ∧ Hid (Flags w1 wr g (w.heap.size + 1) d.L d.s (.slice An n cn) (.slice (some ⟨gf, 0, none⟩) m cap) (flipTo f d.fin k) rs [eInts (.slice AA lu cA) U])) (fun i _ => m - (intOf i).toNat)
    case atStart => exact ⟨0, by omega, rfl, HS⟩
    case round =>
      clear HS
      obtain ⟨k, hk, rfl, HS⟩ := hrel
      by_cases hlt : k < m
      · have hkl : k < d.fin.length := by rw [HM.out]; exact hlt
        have hkn : k < d.next.length := by rw [← HG.out.fin]; exact hkl
        have hlen : (flipTo f d.fin k).length = m := by rw [flip_length (by omega), HM.out]
        obtain ⟨hc, hz⟩ := flags_cell HS.out hlen (flip_get (f := f) hkl)
        have hg3 := HS.out.cell (j := 3) rfl
        have hfk : f k = J d.fin[k] (isAlive d k) := by rw [HFf.out]; show J (finA d k) _ = _; rw [show finA d k = d.fin[k] from by unfold finA; rw [List.getElem?_eq_getElem hkl]; rfl]
        have HN2 : Hid (Flags w1 (wr.setCell ⟨gf, k, none⟩ (.bool (J d.fin[k] (isAlive d k)))) g (w.heap.size + 1) d.L d.s (.slice An n cn) (.slice (some ⟨gf, 0, none⟩) m cap) (flipTo f d.fin (k + 1)) rs [eInts (.slice AA lu cA) U]) := by
          rw [← flip_set hkl, hfk]
          exact flags_set HS.out hlen k _
        have hI0 : IntsAt wr wr.heap.size AA U := own_ints_is HS.out (List.mem_append_right _ List.mem_cons_self) HLu.out HUs.out
        have HCo := Lib.hid (fun W (hW : Below wr.heap.size wr W) => contains_any AA cA U (k : Int) W (hI0.on hW) (by rw [HLu.out]; omega) (b := isAlive d k) (by rw [HU.out]; exact mem_upto hkn))
        rw [HLu.out] at HCo
        have e1 : (k : Int) < (m : Int) := by omega
        clear HS hlen hfk hI0
        generalize d.fin[k] = b at *
        generalize isAlive d k = b2 at *
        go_wp2_with fail
        refine wp_region_still_tail 10 (by kernel_rfl) (by kernel_rfl) ?_
        simp only [List.take_succ_cons, List.take_zero, List.drop_succ_cons, List.drop_zero]
        iterate 7 still_step
        still_call (HCo.out _ (below_drewN (Below.refl _ _) 1))
        still_call (HF.out _ _ _)
        iterate 1 still_step
        refine wpStill_nil ?_
        change wpList _ _ _ _ _ wr.drew
        go_wp2
        go_roundw
        case rel => exact ⟨k + 1, by omega, by go_num, Lib.hid (Own.on HN2.out (Below.refl _ _).drew)⟩
        case measure => simp [intOf]; omega
      · obtain rfl : k = m := by omega
        have hg0 := HS.out.cell (j := 0) rfl
        have hg1 := HS.out.cell (j := 1) rfl
        have hg2 := HS.out.cell (j := 2) rfl
        have hg3 := HS.out.cell (j := 3) rfl
        obtain ⟨hr0, hf0⟩ := HS.out.res (j := 0) rfl
        obtain ⟨hr1, hf1⟩ := HS.out.res (j := 1) rfl
        obtain ⟨hr2, hf2⟩ := HS.out.res (j := 2) rfl
        obtain ⟨hr3, hf3⟩ := HS.out.res (j := 3) rfl
        have HEnd := Lib.hid (flags_end HS.out HSm.out HLS.out.1 HLS.out.2 rfl)
        rw [flip_all (by rw [HM.out]; exact Nat.le_refl _), HFf.out, ← HM.out, judge_fins HG.out, ← HR.out, HM.out] at HEnd
        have HNo : Hid (mkO (judge J) d = (judge J d, 0)) := mkO_ok HG.out
        clear HS
        go_wp2
        obtain ⟨k1, k3, k4, k5, k6⟩ := HEnd.out
        exact bodyPost_ret (results_dfa rfl _ rfl k3 k4 k5 k6) rfl ⟨_, by rw [HNo.out]; rfl, by rw [HNo.out]; exact k1.base HB.out⟩
  · have HC := Lib.hid (fun v W (hA : DfaAt W W.heap.size v d) => alive_any v d W hA)
    rw [aliveR_bad (by omega), g1] at HC
    have HNo : Hid (mkO (judge J) d = (zeroA, e0 + 1)) := by unfold Hid; rw [mkO_bad (by omega), g1]
    clear h hd1 hw1 hX hB1 hsz g1
    generalize d.next.length = n at *
    generalize d.fin.length = m at *
    generalize hE : ((e0 + 1 : Nat) : Int) = E at *
    have HE := Lib.hid hE
    go_enter Tryd.func48, Tryd.ntmps48
    go_wp2_with fail
    rw [← HW.out]
    refine (HC.out _ _ HV.out).mono ?_
    rintro e w2 he
    obtain ⟨wv, h1, ho⟩ := he.out
    obtain ⟨AA, cA, h2, _⟩ := own_ints_at ho (List.mem_append_right _ List.mem_cons_self) (fun x hx => by simp at hx)
    subst h2
    have h1 : e = .returned (.tuple #[.slice AA 0 cA, errI E]) := by rw [h1, ← hE]; rfl
    subst h1
    have hb := ho.below
    have HO2 := Lib.hid (HO.out.on hb)
    obtain ⟨hr0, hf0⟩ := HO2.out.dcell (g := w.heap.size + 1) (l := zero4) (j := 0) (by simp) rfl
    obtain ⟨hr1, hf1⟩ := HO2.out.dcell (g := w.heap.size + 1) (l := zero4) (j := 1) (by simp) rfl
    obtain ⟨hr2, hf2⟩ := HO2.out.dcell (g := w.heap.size + 1) (l := zero4) (j := 2) (by simp) rfl
    obtain ⟨hr3, hf3⟩ := HO2.out.dcell (g := w.heap.size + 1) (l := zero4) (j := 3) (by simp) rfl
    clear hb HC hc0 hc1 hc2 hc3 hres he ho HX HV hE
    have HEnd := Lib.hid (res_bad HO2.out rfl)
    go_wp2
    obtain ⟨k2, k3, k4, k5, k6⟩ := HEnd.out
    exact bodyPost_ret (results_dfa rfl _ rfl k3 k4 k5 k6) rfl ⟨_, by rw [HNo.out, errV_succ, HE.out]; rfl, by rw [HNo.out]; exact dfaOwn_zero (HB.out.trans (k2.mono HB.out.size))⟩

/-! ### stopped -/
/-- A copy in a variable at block g, the result's block gr; its rows as they are now. -/
def RowsI (w1 wr : World) (g gr : Nat) (L s : Int) (nv fv : Value) (bs : List Bool) (rs : List (Value × List Int)) : Prop :=
  Own w1 wr (eRows nv (rs.map (·.1)) :: eBools fv bs :: eDfa g [.int .i64 L, .int .i64 s, nv, fv] :: eDfa gr zero4 :: eEach rs) []
theorem RowsI.cell {w1 wr : World} {g gr : Nat} {L s : Int} {nv fv : Value} {bs : List Bool} {rs : List (Value × List Int)} (h : RowsI w1 wr g gr L s nv fv bs rs) {j : Nat} {u : Value} (hj : [Value.int .i64 L, .int .i64 s, nv, fv][j]? = some u) : wr.cell? ⟨g, j, none⟩ = some u := (Own.dcell h (l := [.int .i64 L, .int .i64 s, nv, fv]) (by simp) hj).1
theorem RowsI.res {w1 wr : World} {g gr : Nat} {L s : Int} {nv fv : Value} {bs : List Bool} {rs : List (Value × List Int)} (h : RowsI w1 wr g gr L s nv fv bs rs) {j : Nat} {u : Value} (hj : zero4[j]? = some u) : wr.cell? ⟨gr, j, none⟩ = some u ∧ wr.frozen? ⟨gr, j, none⟩ = false := Own.dcell h (l := zero4) (by simp) hj
theorem rowsI_set {w1 wr : World} {g gr gx cap n : Nat} {L s : Int} {nv fv : Value} {bs : List Bool} {rs : List (Value × List Int)} {r : List Int} (h : RowsI w1 wr g gr L s nv fv bs rs) {k : Nat} (hk : rs[k]? = some (.slice (some ⟨gx, 0, none⟩) n cap, r)) (hl : r.length = n) (j : Nat) (x : Int) :
    RowsI w1 (wr.setCell ⟨gx, j, none⟩ (.int .i64 x)) g gr L s nv fv bs (rs.set k (.slice (some ⟨gx, 0, none⟩) n cap, r.set j x)) := by
  obtain ⟨hkl, hke⟩ := List.getElem?_eq_some_iff.1 hk
  unfold RowsI at h
  have hlen : k + 4 < (eRows nv (rs.map (·.1)) :: eBools fv bs :: eDfa g [.int .i64 L, .int .i64 s, nv, fv] :: eDfa gr zero4 :: eEach rs).length := by simp [eEach]; exact hkl
  have h1 := h.pull (k + 4) hlen
  have e1 : (eRows nv (rs.map (·.1)) :: eBools fv bs :: eDfa g [.int .i64 L, .int .i64 s, nv, fv] :: eDfa gr zero4 :: eEach rs)[k + 4] = eInts (.slice (some ⟨gx, 0, none⟩) n cap) r := by
    simp only [List.getElem_cons_succ, eEach, List.getElem_map, hke]
  rw [e1] at h1
  have h2 := own_ints_set h1 hl j x
  have hrows : (rs.set k (Value.slice (some ⟨gx, 0, none⟩) n cap, r.set j x)).map (·.1) = rs.map (·.1) := map_set_same _ _ _ _ fun y hy => by
    obtain rfl := Option.some.inj (hk.symm.trans hy); rfl
  have heach : eEach (rs.set k (Value.slice (some ⟨gx, 0, none⟩) n cap, r.set j x)) = (eEach rs).set k (eInts (.slice (some ⟨gx, 0, none⟩) n cap) (r.set j x)) := by unfold eEach; rw [List.map_set]
  unfold RowsI
  rw [hrows, heach]
  refine Own.put (k + 4) (by simp [eEach]; exact hkl) ?_
  simp only [List.getElem_cons_succ, List.getElem_set_self, List.eraseIdx_cons_succ, List.eraseIdx_set_eq]
  simp only [List.eraseIdx_cons_succ] at h2
  exact h2
end Go.Proofs.YtbciefeipiphiaaDoor.Sa

namespace Go.Proofs.YtbciefeipiphiaaDoor.Sa
open Go.RowKit Go.IntWalk Go.Proofs.YtbciefeipiphiaaDoor.Wd Go.Proofs.YtbciefeipiphiaaDoor.Wo Go.Proofs.YtbciefeipiphiaaDoor.Df Go.Proofs.YtbciefeipiphiaaDoor.Rc Go.Proofs.YtbciefeipiphiaaDoor.Sm Go.Proofs.YtbciefeipiphiaaDoor.Mp

/-! ### the function literals -/
set_option maxRecDepth 100000 in
theorem pre1_any (x y : Bool) (w : World) : Calls Tryd.prog 49 #[.bool x, .bool y] w fun e w' => e = .returned (.bool (preF x y)) ∧ w' = w := by
  rcases x with _ | _ <;> rcases y with _ | _
  all_goals
    go_enter Tryd.func49, Tryd.ntmps49
    go_wp2
    go_ret
    exact ⟨rfl, rfl⟩
theorem pre1_call (args : Array Value) (W : World) : (callFunc 49 args).run Tryd.prog W = .ok (.enter 49 args) W := by
  have hn : ¬ Tryd.f49.name = "runtime.NumGoroutine" := of_decide_eq_false (by kernel_rfl)
  have hb : ¬ Tryd.f49.body = none := fun h => by
    have : Tryd.f49.body.isSome = true := by kernel_rfl
    rw [h] at this; cases this
  simp [callFunc, go_sem, hn, hb]
set_option maxRecDepth 100000 in
set_option maxHeartbeats 1000000 in
theorem pre_any (v : Value) (d : Aut) (w : World) (h : DfaAt w w.heap.size v d) :
    Calls Tryd.prog 27 #[v] w fun e w' => Hid (∃ x, e = .returned (.tuple #[x, errV (mkO (judge preF) d).2]) ∧ DfaOwn w w' x (mkO (judge preF) d).1) := by
  have HA := h
  obtain ⟨L, s, A, c, F, cf, rfl, h⟩ := h
  obtain ⟨w1, hw1, hB1, hX, hd1⟩ := box_dfa w h
  have hs1 : w1.heap.size = w.heap.size + 1 := by rw [hw1]; simp
  have hres := below_alloc w1 (.cells #[.int .i64 0, .int .i64 0, .slice none 0 0, .slice none 0 0] 25)
  have HB := Lib.hid hB1
  have HO := Lib.hid ((own_start w1).dfa (.int .i64 0) (.int .i64 0) (.slice none 0 0) (.slice none 0 0))
  rw [hs1] at HO
  have HC := Lib.hid (judged_any 49 pre1_call preF pre1_any _ d _ ((HA.on hB1).on hres))
  have hX2 := hX.on hres
  have hc0 := hX2.c0
  have hc1 := hX2.c1
  have hc2 := hX2.c2
  have hc3 := hX2.c3
  have HW := Lib.hid hw1
  clear hw1 hB1 hX hd1 hs1 h hres hX2 HA
  generalize d.next.length = n1 at *
  generalize d.fin.length = n2 at *
  generalize mkO (judge preF) d = PO at *
  obtain ⟨po, en⟩ := PO
  simp only at HC ⊢
  generalize errV en = E at *
  go_enter Tryd.func27, Tryd.ntmps27
  go_wp2_with fail
  rw [← HW.out]
  refine HC.out.mono ?_
  rintro e w5 he
  obtain ⟨x, rfl, ho⟩ := he.out
  obtain ⟨nv, fv, A1, m1, c1, F1, m2, c2, rfl, rfl, rfl⟩ := ho.form
  have HH := Lib.hid (res_own HO.out ho rfl)
  have hO5 := HO.out.join (es1 := []) (fs1 := []) ((own_start _).on ho.below)
  obtain ⟨hr0, hf0⟩ := hO5.dcell (g := w.heap.size + 1) (l := zero4) (j := 0) (by simp) rfl
  obtain ⟨hr1, hf1⟩ := hO5.dcell (g := w.heap.size + 1) (l := zero4) (j := 1) (by simp) rfl
  obtain ⟨hr2, hf2⟩ := hO5.dcell (g := w.heap.size + 1) (l := zero4) (j := 2) (by simp) rfl
  obtain ⟨hr3, hf3⟩ := hO5.dcell (g := w.heap.size + 1) (l := zero4) (j := 3) (by simp) rfl
  clear he ho hO5 HC hc0 hc1 hc2 hc3
  go_wp2
  obtain ⟨k1, k3, k4, k5, k6⟩ := HH.out
  exact bodyPost_ret (results_dfa rfl _ rfl k3 k4 k5 k6) rfl ⟨_, rfl, k1.base HB.out⟩
/-! ### the class -/
end Go.Proofs.YtbciefeipiphiaaDoor.Sa
