/- The walk of package reach's Trim. -/
import Derived.Test.YtbciefeipiphiaaDoorFirst
import Derived.Test.YtbciefeipiphiaaDoorDfaM
import Derived.Test.YtbciefeipiphiaaDoorDfaR
import Derived.Test.YtbciefeipiphiaaDoorRegL
import Derived.Deep.Light
namespace Go.Proofs.YtbciefeipiphiaaDoor.Rc
open Go.RowKit Go.IntWalk Go.Proofs.YtbciefeipiphiaaDoor.Wd Go.Proofs.YtbciefeipiphiaaDoor.Wo Go.Proofs.YtbciefeipiphiaaDoor.Df

/-- The numbers of the first k that are found. -/
def nb (l : List Nat) (k N : Nat) : List Int := (List.range N).map fun t => if t ∈ l.take k then ((num l t : Nat) : Int) else 0
theorem nb_length (l : List Nat) (k N : Nat) : (nb l k N).length = N := by simp [nb]
theorem nb_zero (l : List Nat) (N : Nat) : nb l 0 N = List.replicate N 0 := by
  unfold nb
  rw [show (fun t => if t ∈ l.take 0 then ((num l t : Nat) : Int) else 0) = fun (_ : Nat) => (0 : Int) from by funext t; simp, List.map_const']
  simp
theorem nb_get (l : List Nat) {k N t : Nat} (h : t < N) : (nb l k N)[t]? = some (if t ∈ l.take k then ((num l t : Nat) : Int) else 0) := by
  unfold nb; rw [List.getElem?_map, List.getElem?_range h]; rfl
theorem nb_set {l : List Nat} (hn : l.Nodup) {k N t : Nat} (ht : l[k]? = some t) : (nb l k N).set t (k : Int) = nb l (k + 1) N := by
  refine List.ext_getElem? fun j => ?_
  rw [List.getElem?_set, nb_length]
  obtain ⟨hk, he⟩ := List.getElem?_eq_some_iff.1 ht
  have hm : ∀ j, j ∈ l.take (k + 1) ↔ j ∈ l.take k ∨ j = t := fun j => by
    rw [← List.take_append_getElem hk, he]; simp
  by_cases hj : j < N
  · rw [nb_get _ hj, nb_get _ hj]
    by_cases e : t = j
    · subst e
      rw [if_pos rfl, if_pos hj, if_pos ((hm t).2 (.inr rfl)), idx_of hn ht]
    · rw [if_neg e]
      by_cases h2 : j ∈ l.take k
      · rw [if_pos h2, if_pos ((hm j).2 (.inl h2))]
      · rw [if_neg h2, if_neg (fun q => ((hm j).1 q).elim h2 (fun q => e q.symm))]
  · rw [List.getElem?_eq_none (by rw [nb_length]; omega), List.getElem?_eq_none (by rw [nb_length]; omega)]
    split
    · rw [if_neg (by omega)]
    · rfl
theorem nb_all {l : List Nat} {N t : Nat} (h : t < N) (ht : t ∈ l) {k : Nat} (hk : l.length ≤ k) : (nb l k N)[t]? = some ((num l t : Nat) : Int) := by
  rw [nb_get l h, List.take_of_length_le hk, if_pos ht]
/-- A row of the trimmed one, as far as letter c. -/
def rowT (d : Aut) (l : List Nat) (x n c : Nat) : List Int := ((S1 d x).take c).map (fun t => ((num l t : Nat) : Int)) ++ List.replicate (n - c) 0
theorem rowT_zero (d : Aut) (l : List Nat) (x n : Nat) : rowT d l x n 0 = List.replicate n 0 := by simp [rowT]
theorem rowT_length {d : Aut} {l : List Nat} {x n c : Nat} (h : (S1 d x).length = n) (hc : c ≤ n) : (rowT d l x n c).length = n := by
  unfold rowT; rw [List.length_append, List.length_map, List.length_take, List.length_replicate]; omega
theorem rowT_step {d : Aut} {l : List Nat} {x n c t : Nat} (h : (S1 d x)[c]? = some t) (hn : c < n) : (rowT d l x n c).set c ((num l t : Nat) : Int) = rowT d l x n (c + 1) := by
  have hc := (List.getElem?_eq_some_iff.1 h).1
  have ht := (List.getElem?_eq_some_iff.1 h).2
  unfold rowT
  rw [List.set_append_right _ _ (by rw [List.length_map, List.length_take]; omega), show n - c = (n - (c + 1)) + 1 by omega, List.replicate_succ, List.length_map, List.length_take, show c - min c (S1 d x).length = 0 by omega, List.set_cons_zero]
  rw [← List.take_append_getElem hc, List.map_append, ht]
  simp
theorem rowT_full {d : Aut} {l : List Nat} {x n : Nat} (h : (S1 d x).length = n) : rowT d l x n n = srow (S1 d) l x := by
  unfold rowT srow
  rw [List.take_of_length_le (by omega), Nat.sub_self, List.replicate_zero, List.append_nil]
def trimOut (d : Aut) : Aut × Nat := if dchk d = 0 then (trimA d, 0) else (zeroA, dchk d)
theorem trimOut_ok {d : Aut} (h : dchk d = 0) : trimOut d = (trimA d, 0) := by unfold trimOut; rw [if_pos h]
theorem trimOut_bad {d : Aut} (h : dchk d ≠ 0) : trimOut d = (zeroA, dchk d) := by unfold trimOut; rw [if_neg h]
/-- The trimmed one under way. -/
def PT (w1 wr : World) (g : Nat) (d : Aut) (l : List Nat) (n gr : Nat) (xs : List Ent) (k : Nat) : Prop :=
  ∃ nv fv rr, Build w1 wr g (eDfa gr zero4 :: xs) (n : Int) 0 ((l.take k).map (srow (S1 d) l)) ((l.take k).map (finA d)) nv fv rr
/-- The same within a row. -/
def RT (w1 wi : World) (g : Nat) (d : Aut) (l : List Nat) (n gr g4 N : Nat) (rs : List Fv) (pv : Value) (k : Nat) (x : Fd) (wv : Value) (gh gw : Nat) (nv fv : Value) (rr : List (Value × List Int)) (c : Nat) : Prop :=
  Own w1 wi [eInts (rV gw n) (rowT d l x.1 n c), eFd (rV gh 1) [(x, wv)], eRows nv (rr.map (·.1)), eBools fv ((l.take k).map (finA d)), eDfa g [.int .i64 (n : Int), .int .i64 0, nv, fv], eDfa gr zero4, eInts (rV g4 N) (nb l rs.length N), eFd pv rs] (eEach rr)
set_option linter.unusedSimpArgs false in
set_option maxRecDepth 100000 in
set_option maxHeartbeats 4000000 in
theorem trim_any (v : Value) (d : Aut) (w : World) (h : DfaAt w w.heap.size v d) :
    Calls Tryd.prog 55 #[v] w fun e w' => Hid (∃ x, e = .returned (.tuple #[x, errV (trimOut d).2]) ∧ DfaOwn w w' x (trimOut d).1) := by
  have HV := h
  obtain ⟨L, s, A, c, F, cf, rfl, h⟩ := h
  obtain ⟨w1, hw1, hB1, hX, hd1⟩ := box_dfa w h
  have HB := Lib.hid hB1
  have HX := Lib.hid hX
  have HW := Lib.hid hw1
  have HD := Lib.hid hd1
  have hres := below_alloc w1 (.cells #[.int .i64 0, .int .i64 0, .slice none 0 0, .slice none 0 0] 25)
  have hX2 := hX.on hres
  have HX2 := Lib.hid hX2
  have hc0 := hX2.c0
  have hc1 := hX2.c1
  have hc2 := hX2.c2
  have hc3 := hX2.c3
  have HO := Lib.hid ((own_start w1).dfa (.int .i64 0) (.int .i64 0) (.slice none 0 0) (.slice none 0 0))
  have HV := Lib.hid ((HV.on hB1).on hres)
  have hsz : w1.heap.size = w.heap.size + 1 := by rw [hw1]; simp
  rw [hsz] at HO
  rcases g1 : dchk d with _ | e0
  · have HC := Lib.hid (dcheck_ok HV.out g1)
    have hg := dchk_iff.1 g1
    have HG := Lib.hid hg
    obtain ⟨p, hp⟩ := Int.eq_ofNat_of_zero_le (show 0 ≤ s by have := hg.st.1; have := h.es; omega)
    obtain ⟨n, hn⟩ := Int.eq_ofNat_of_zero_le (show 0 ≤ L by have := hg.l1; have := h.eL; omega)
    subst hp hn
    have hps : d.s.toNat = p := by have := h.es; omega
    have hsl : p < d.next.length := by have := hg.s_lt; omega
    have HL : Hid (d.L = (n : Int)) := h.eL
    have hn6 : n ≤ 6 := by have := hg.l6; have := h.eL; omega
    have h40 := hg.n40
    have hfn := hg.fin
    have HSe := Lib.hid (fun v W hA => search_any v d p W hA hg hsl)
    have HSl := Lib.hid hsl
    have HTr : Hid (trimOut d = (⟨d.L, 0, (rset d p).map (srow (S1 d) (rset d p)), (rset d p).map (finA d)⟩, 0)) := by
      unfold Hid; rw [trimOut_ok g1]; unfold trimA autOf; rw [hps]
    clear h hd1 hw1 hX hB1 g1 hg hps hsl hX2 hres
    generalize hm : d.fin.length = m at *
    generalize hN : d.next.length = N at *
    have HN := Lib.hid hN
    have hmN : N ≤ m := by omega
    clear hN hm hfn
    go_enter Tryd.func55, Tryd.ntmps55
    go_wp2_with fail
    rw [← HW.out]
    clear HW
    refine HC.out.mono ?_
    rintro e w2 ⟨rfl, hb⟩
    have HO2 := Lib.hid (HO.out.on hb)
    have HX2 := Lib.hid (HX2.out.on hb)
    have HV2 := Lib.hid (HV.out.on hb)
    clear hb HC hc0 hc1 hc2 hc3 HO HV
    have hc0 := HX2.out.c0
    have hc1 := HX2.out.c1
    have hc2 := HX2.out.c2
    have hc3 := HX2.out.c3
    go_wp2_with fail
    refine (HSe.out _ _ HV2.out).mono ?_
    rintro e w3 he
    obtain ⟨pv, rs, h1, hf⟩ := he.out
    subst h1
    have hbw := hf.2.1.below
    have HO3 : Hid (Own w1 w3 [eFd pv rs, eDfa (w.heap.size + 1) zero4] []) := (HO2.out.join hf.2.2.2).weak (fun e he => by simp at he)
    obtain ⟨Ap, cp, hpv, hcp, hcp2, hpa⟩ := own_fd hf.2.1 (v := pv) (l := rs) (by simp)
    subst hpv
    have HH := Lib.hid hf.1
    have hEw := fun (q : Fv) (hq : q ∈ rs) => hf.2.1.form (e := eInts q.2 q.1.2) (List.mem_append_right _ (List.mem_cons_of_mem _ (List.mem_map.2 ⟨q, hq, rfl⟩)))
    have HEw := Lib.hid hEw
    have HX3 := Lib.hid (HX2.out.on hbw)
    have hr40 : rs.length ≤ 40 := by have := hf.1.part.n40; simpa using this
    have HRl : Hid (rset d p = (rs.map (·.1)).map (·.1)) := hf.1.rset (by simp)
    have HND := Lib.hid hf.1.part.nd
    clear hf he hpa hbw hEw HSe HO2 hc0 hc1 hc2 hc3 HX2 HV2
    have hc2 := HX3.out.c2
    go_wp2_with (at_make; refine mk_ints rfl _ _ rfl N rfl rfl (by omega) ?_)
    intro w4 hm4
    have HS0 : Hid (Own w1 w4 [eInts (rV w3.heap.size N) (nb ((rs.map (·.1)).map (·.1)) 0 N), eFd (.slice Ap rs.length cp) rs, eDfa (w.heap.size + 1) zero4] []) := by
      have h := HO3.out.join (Own.of_nums hm4)
      rw [nb_zero]
      exact h
    clear hm4 hc2 HX3 HO3
    generalize hlL : (rs.map (·.1)).map (·.1) = l at *
    have HLL := Lib.hid hlL
    clear hlL
    generalize w3.heap.size = g4 at *
    go_wp2
    go_loopw [31] (fun i wr => ∃ (k : Nat), k ≤ rs.length ∧ i = .int .i64 k ∧ Hid (Own w1 wr [eInts (rV g4 N) (nb l k N), eFd (.slice Ap rs.length cp) rs, eDfa (w.heap.size + 1) zero4] [])) (fun i _ => rs.length - (intOf i).toNat)
    case atStart => exact ⟨0, by omega, rfl, HS0⟩
    case round =>
      clear HS0
      obtain ⟨k, hk, rfl, HS⟩ := hrel
      by_cases hlt : k < rs.length
      · obtain ⟨⟨x, wv⟩, hx⟩ : ∃ q, rs[k]? = some q := ⟨_, List.getElem?_eq_getElem hlt⟩
        have hxl : l[k]? = some x.1 := by rw [← HLL.out, List.getElem?_map, List.getElem?_map, hx]; rfl
        have hx1 : x.1 < N := by
          have := HH.out.lt HG.out (by rw [HN.out]; exact HSl.out) (List.mem_map.2 ⟨_, List.mem_of_getElem? hx, rfl⟩)
          rw [HN.out] at this; exact this
        have hcells := HS.out.cells (t := 105) (sz := 2) (n := rs.length) (cap := cp) (A := Ap) (xs := fcells rs) (by simp [eFd])
        obtain ⟨adp, hAp, hadp, hp0, hp1⟩ := fd_at hcells hx
        subst hAp
        simp only at hp0 hp1
        obtain ⟨Aw, cw, hwv, _, _, _⟩ := HEw.out _ (List.mem_of_getElem? hx)
        simp only [eInts] at hwv
        have hsa := HS.out.alloc (.cells #[.int .i64 (x.1 : Int), wv] 105)
        obtain ⟨hk1, hk2⟩ := own_ints_cell hsa (List.mem_append_left _ List.mem_cons_self) (nb_length _ _ _) (nb_get l hx1)
        have HN1 : Hid (Own w1 ((wr.alloc (.cells #[.int .i64 (x.1 : Int), wv] 105)).setCell ⟨g4, x.1, none⟩ (.int .i64 (k : Int))) [eInts (rV g4 N) (nb l (k + 1) N), eFd (.slice (some adp) rs.length cp) rs, eDfa (w.heap.size + 1) zero4] []) := by
          have h := own_ints_set hsa (nb_length _ _ _) x.1 (k : Int)
          rw [nb_set (by have := HND.out; exact this) hxl] at h
          exact h
        have e1 : (x.1 : Int) < (N : Int) := by omega
        clear hx hxl hx1 hcells hadp hsa HS
        generalize x.2.length = lw at *
        generalize (if x.1 ∈ l.take k then ((num l x.1 : Nat) : Int) else 0) = old at *
        subst hwv
        go_wp2
        go_roundw
        case rel => exact ⟨k + 1, by omega, by go_num, HN1⟩
        case measure => simp [intOf]; omega
      · obtain rfl : k = rs.length := by omega
        have hll : l.length = rs.length := by rw [← HLL.out, List.length_map, List.length_map]
        have HLl := Lib.hid hll
        clear hll
        have HXw := Lib.hid (HX.out.on HS.out.below)
        have HB0 : Hid (PT w1 (wr.alloc (.cells #[.int .i64 (n : Int), .int .i64 0, .slice none 0 0, .slice none 0 0] 25)) wr.heap.size d l n (w.heap.size + 1) [eInts (rV g4 N) (nb l rs.length N), eFd (.slice Ap rs.length cp) rs] 0) := by
          have h := (HS.out.re [2, 0, 1] 3 rfl (by decide)).dfa (.int .i64 (n : Int)) (.int .i64 0) (.slice none 0 0) (.slice none 0 0)
          exact ⟨.slice none 0 0, .slice none 0 0, [], rfl, ((h.nil 4 1).nil 27 1)⟩
        have hc0 := HXw.out.c0
        clear HS
        go_wp2
        clear hc0 HXw
        generalize wr.heap.size = g at *
        go_loopw [47] (fun i wi => ∃ (k : Nat), k ≤ rs.length ∧ i = .int .i64 k ∧ Hid (PT w1 wi g d l n (w.heap.size + 1) [eInts (rV g4 N) (nb l rs.length N), eFd (.slice Ap rs.length cp) rs] k)) (fun i _ => rs.length - (intOf i).toNat)
        case atStart => exact ⟨0, by omega, rfl, HB0⟩
        case round =>
          clear HB0
          obtain ⟨k, hk, rfl, HS⟩ := hrel
          obtain ⟨nv, fv, rr, hrr, hown⟩ := HS.out
          have HRR := Lib.hid hrr
          have HO := Lib.hid hown
          clear HS hrr hown
          by_cases hlt : k < rs.length
          · obtain ⟨⟨x, wv⟩, hx⟩ : ∃ q, rs[k]? = some q := ⟨_, List.getElem?_eq_getElem hlt⟩
            have hxl : l[k]? = some x.1 := by rw [← HLL.out, List.getElem?_map, List.getElem?_map, hx]; rfl
            have HXL := Lib.hid hxl
            have hx1 : x.1 < d.next.length := HH.out.lt HG.out (by rw [HN.out]; exact HSl.out) (List.mem_map.2 ⟨_, List.mem_of_getElem? hx, rfl⟩)
            have HX1 := Lib.hid hx1
            have hcells := HO.out.cells (t := 105) (sz := 2) (n := rs.length) (cap := cp) (A := Ap) (xs := fcells rs) (by simp [eFd])
            obtain ⟨adp, hAp, hadp, hp0, hp1⟩ := fd_at hcells hx
            subst hAp
            simp only at hp0 hp1
            obtain ⟨Aw, cw, hwv, _, _, _⟩ := HEw.out _ (List.mem_of_getElem? hx)
            simp only [eInts] at hwv
            have ho1 := HO.out.lit 105 2 1 #[.int .i64 (x.1 : Int), wv] rfl (by simp [maxLen])
            have HO1 := Lib.hid ho1
            have hc0 := (HX.out.on ho1.below).c0
            obtain ⟨ad, A', c', e0, hadb, hcell1, hrc, hcc, hri⟩ := HD.out.rows x.1 _ (List.getElem?_eq_getElem hx1)
            subst e0
            have HRI := Lib.hid hri
            have HCell := Lib.hid hcell1
            have hrl := HG.out.row _ (List.getElem_mem hx1)
            have HRow : Hid (d.next[x.1]? = some (d.next[x.1])) := List.getElem?_eq_getElem hx1
            have e1 : (x.1 : Int) < (N : Int) := by have := HN.out; omega
            clear hx hxl hcells hadp ho1 hri hrc hcc hcell1 HO
            generalize d.next[x.1] = r0 at *
            have hrn : r0.length ≤ n := by have := HL.out; omega
            have hrn2 : n ≤ r0.length := by have := HL.out; omega
            clear hrl hx1
            generalize x.2.length = lw at *
            subst hwv
            go_wp2_with (at_make; refine mk_ints rfl _ _ rfl n rfl rfl (by omega) ?_)
            intro w6 hm6
            have HR0 : Hid (RT w1 w6 g d l n (w.heap.size + 1) g4 N rs (.slice (some adp) rs.length cp) k x (.slice Aw lw cw) wr.heap.size (wr.heap.size + 1) nv fv rr 0) := by
              have h := HO1.out.join (Own.of_nums (show Nums (wr.alloc (.cells #[.int .i64 (x.1 : Int), .slice Aw lw cw] 105)).heap.size _ _ _ _ by simpa using hm6))
              unfold Hid RT
              rw [rowT_zero]
              exact h
            clear hm6 HO1 hc0 hp0 hp1
            have hc2 := (HX.out.on HR0.out.below).c2
            have hcell := (HR0.out.below.cell (p := ad.add x.1) (by rw [Wd.block_add]; exact hadb)).trans HCell.out
            obtain ⟨hh0, _⟩ := HR0.out.cell (t := 105) (sz := 2) (n := 1) (cap := 1) (g := wr.heap.size) (xs := [.int .i64 (x.1 : Int), .slice Aw lw cw]) (j := 0) (by simp [eFd, fcells]) rfl
            go_wp2
            clear hc2 hcell hh0
            generalize wr.heap.size = gh at *
            go_loopw [61] (fun i wi => ∃ (q : Nat), q ≤ r0.length ∧ i = .int .i64 q ∧ Hid (RT w1 wi g d l n (w.heap.size + 1) g4 N rs (.slice (some adp) rs.length cp) k x (.slice Aw lw cw) gh (gh + 1) nv fv rr q)) (fun i _ => r0.length - (intOf i).toNat)
            case atStart => exact ⟨0, by omega, rfl, HR0⟩
            case round =>
              clear HR0
              obtain ⟨q, hq, rfl, HR⟩ := hrel
              have hS1 : (S1 d x.1).length = n := by rw [S1_length]; have := HL.out; omega
              have hown := HR.out
              unfold RT at hown
              by_cases hqn : q < r0.length
              · obtain ⟨r1, hr1, _, hr3, hr4, hr5⟩ := HG.out.at_ HX1.out (a := q) (by rw [HL.out]; omega)
                obtain rfl := Option.some.inj (HRow.out.symm.trans hr1)
                obtain ⟨ar, e0, k1, k2, _⟩ := (HRI.out.on hown.below).get hr4
                subst e0
                have hxm : x.1 ∈ l := List.mem_of_getElem? HXL.out
                have hst := S1_get d x.1 (c := q) (by rw [HL.out]; omega)
                have htm : Df.step d x.1 q ∈ l := by
                  have hw := rset_whole HG.out (s := p) (by rw [HN.out]; exact HSl.out)
                  rw [HRl.out] at hw
                  exact hw.closed _ hxm _ (List.mem_of_getElem? hst)
                rw [HN.out] at hr5
                obtain ⟨hn1, _⟩ := own_ints_cell (g := g4) (n := N) (cap := N) (l := nb l rs.length N) hown (List.mem_append_left _ (by simp)) (nb_length _ _ _) (nb_all hr5 htm (by rw [HLl.out]; exact Nat.le_refl _))
                obtain ⟨old, hold⟩ : ∃ old, (rowT d l x.1 n q)[q]? = some old := ⟨_, List.getElem?_eq_getElem (by rw [rowT_length hS1 (by omega)]; omega)⟩
                obtain ⟨hw1, hw2⟩ := own_ints_cell hown (List.mem_append_left _ List.mem_cons_self) (rowT_length hS1 (by omega)) hold
                have HN1 : Hid (RT w1 (wr.setCell ⟨gh + 1, q, none⟩ (.int .i64 ((num l (Df.step d x.1 q) : Nat) : Int))) g d l n (w.heap.size + 1) g4 N rs (.slice (some adp) rs.length cp) k x (.slice Aw lw cw) gh (gh + 1) nv fv rr (q + 1)) := by
                  unfold Hid RT
                  rw [← rowT_step hst (by omega)]
                  exact own_ints_set hown (rowT_length hS1 (by omega)) q _
                have e2 : (Df.step d x.1 q : Int) < (N : Int) := by omega
                have e3 : (q : Int) < (n : Int) := by omega
                clear hr1 hr3 hr4 hr5 hxm hst htm hold hown HR hS1
                generalize num l (Df.step d x.1 q) = v9 at *
                generalize Df.step d x.1 q = t at *
                go_wp2
                go_roundw
                case rel => exact ⟨q + 1, by omega, by go_num, HN1⟩
                case measure => simp [intOf]; omega
              · obtain rfl : q = r0.length := by omega
                have hqn' : r0.length = n := by omega
                rw [hqn', rowT_full hS1] at hown
                have HO2 := Lib.hid (hown.re [2, 0, 3, 4, 5, 6, 7, 1] 8 rfl (by decide))
                have HRow1 : Hid ((l.take (k + 1)).map (srow (S1 d) l) = (l.take k).map (srow (S1 d) l) ++ [srow (S1 d) l x.1]) := take_succ_map _ _ HXL.out
                have HFlag : Hid ((l.take (k + 1)).map (finA d) = (l.take k).map (finA d) ++ [finA d x.1]) := take_succ_map _ _ HXL.out
                have HLen : Hid ((rr.map (·.1)).length < 1099511627776 ∧ ((l.take k).map (finA d)).length < 17592186044416) := by
                  have h1 := congrArg List.length HRR.out
                  rw [List.length_map, List.length_map, List.length_take] at h1
                  exact ⟨by rw [List.length_map]; omega, by rw [List.length_map, List.length_take]; omega⟩
                obtain ⟨hg2, hgf2⟩ := HO2.out.dcell (g := g) (l := [.int .i64 (n : Int), .int .i64 0, nv, fv]) (j := 2) (by simp) rfl
                clear hown HR hS1
                generalize (l.take k).map (srow (S1 d) l) = rws at *
                generalize (l.take k).map (finA d) = bs at *
                generalize hrl : srow (S1 d) l x.1 = rowx at *
                clear hrl
                go_wp2_with (at_builtin; refine own_row (by rfl) _ _ (by rfl) (by rfl) HO2.out (by rfl) (by rfl) HLen.out.1 ?_)
                intro g8 cap8 w8 ho8
                have HB9 : Hid (Build w1 (w8.setCell ⟨g, 2, none⟩ (.slice (some ⟨g8, 0, none⟩) (rr.length + 1) cap8)) g (eDfa (w.heap.size + 1) zero4 :: [eInts (rV g4 N) (nb l rs.length N), eFd (.slice (some adp) rs.length cp) rs, eFd (rV gh 1) [(x, .slice Aw lw cw)]]) (n : Int) 0 (rws ++ [rowx]) bs (.slice (some ⟨g8, 0, none⟩) (rr.length + 1) cap8) fv (rr ++ [(rV (gh + 1) n, rowx)])) := by
                  exact build_row HRR.out ho8 rfl
                obtain ⟨hk8, hf8⟩ := ho8.dcell (g := g) (l := [.int .i64 (n : Int), .int .i64 0, nv, fv]) (j := 2) (by simp) rfl
                rw [← HRow1.out] at HB9
                clear ho8 hg2 hgf2 HO2 HRow1
                go_wp2_with fail
                generalize hw9 : w8.setCell ⟨g, 2, none⟩ (.slice (some ⟨g8, 0, none⟩) (rr.length + 1) cap8) = w9 at *
                clear hw9 hk8 hf8
                have hbw := HB9.out.2.below
                have HBA := Lib.hid (HD.out.fins.at_ (HG.out.fin_at HX1.out))
                obtain ⟨adf, eF, hfa, hcf, _⟩ := (HD.out.on hbw).fins.at_ (HG.out.fin_at HX1.out)
                subst eF
                have hX9 := HX.out.on hbw
                have hc3 := hX9.c3
                have hc5l := hX9.lt
                have hc3' := HB9.out.c3.1
                have hc3l := HB9.out.lt.2
                obtain ⟨hh0, _⟩ := HB9.out.2.cell (t := 105) (sz := 2) (n := 1) (cap := 1) (g := gh) (xs := [.int .i64 (x.1 : Int), .slice Aw lw cw]) (j := 0) (by simp [eFd, fcells]) rfl
                have hhl := (HB9.out.2.lt (ad := ⟨gh, 0, none⟩) (t := 105) (sz := 2) (n := 1) (cap := 1) (xs := [.int .i64 (x.1 : Int), .slice Aw lw cw]) (by simp [eFd, fcells])).2
                have e4 : (x.1 : Int) < (m : Int) := by omega
                have HO5 := Lib.hid HB9.out.2.two
                generalize (Value.slice (some ⟨g8, 0, none⟩) (rr.length + 1) cap8) = nv9 at *
                generalize (rr ++ [(rV (gh + 1) n, rowx)]) = rr9 at *
                generalize finA d x.1 = b at *
                have HK : Hid (∀ W es fs, Own w1 W es fs → eFd (rV gh 1) [(x, .slice Aw lw cw)] ∈ es ++ fs ∧ eDfa g [.int .i64 (n : Int), .int .i64 0, nv9, fv] ∈ es ++ fs → W.cell? ⟨g, 3, none⟩ = some fv ∧ W.cell? ⟨w.heap.size, 3, none⟩ = some (.slice (some adf) m cf) ∧ W.cell? ⟨gh, 0, none⟩ = some (.int .i64 (x.1 : Int)) ∧ W.cell? (adf.add x.1) = some (.bool b)) := fun W es fs hW hm => by
                  obtain ⟨hm, hm2⟩ := hm
                  obtain ⟨ad1, e1, _, c1, _⟩ := HBA.out
                  cases e1
                  exact ⟨(hW.dcell hm2 rfl).1, (HX.out.on hW.below).c3, (hW.cell (t := 105) (sz := 2) (n := 1) (cap := 1) (g := gh) (xs := [.int .i64 (x.1 : Int), .slice Aw lw cw]) (j := 0) hm rfl).1, (hW.below.cell (by rw [Wd.block_add]; assumption)).trans c1⟩
                clear hbw hX9 hh0 hhl hc3 hc5l hc3' hc3l hcf
                refine wp_region_Z (fun W => W.cell? ⟨g, 3, none⟩ = some fv ∧ W.cell? ⟨w.heap.size, 3, none⟩ = some (.slice (some adf) m cf) ∧ W.cell? ⟨gh, 0, none⟩ = some (.int .i64 (x.1 : Int)) ∧ W.cell? (adf.add x.1) = some (.bool b)) 11 (by kernel_rfl) (HK.out _ _ _ (HB9.out.2.on (by go_grown)) (by simp)) (fun hHeld => ?_)
                refine wpZ_take (i := 0) (v := ?_) rfl (by kernel_rfl) (by kernel_rfl) (by kernel_rfl) (by kernel_rfl) (fun _ _ _ h => h) (Or.inl ⟨by rfl, ?_⟩) hHeld ?_
                rotate_left
                · (go_light; intro w9 hSw; (try dsimp only at hSw); go_simp; try with_reducible rfl)
                try simp only [Act.put, List.setIfInBounds_toArray, List.set_cons_zero, List.set_cons_succ]
                refine wpZ_take (i := 1) (v := ?_) rfl (by kernel_rfl) (by kernel_rfl) (by kernel_rfl) (by kernel_rfl) (fun _ _ _ h => h) (Or.inl ⟨by rfl, ?_⟩) hHeld ?_
                rotate_left
                · (go_light; intro w9 hSw; (try dsimp only at hSw); go_simp; try with_reducible rfl)
                try simp only [Act.put, List.setIfInBounds_toArray, List.set_cons_zero, List.set_cons_succ]
                refine wpZ_take (i := 2) (v := ?_) rfl (by kernel_rfl) (by kernel_rfl) (by kernel_rfl) (by kernel_rfl) (fun _ _ _ h => h) (Or.inl ⟨by rfl, ?_⟩) hHeld ?_
                rotate_left
                · (go_light; intro w9 hSw; (try dsimp only at hSw); go_simp; try with_reducible rfl)
                try simp only [Act.put, List.setIfInBounds_toArray, List.set_cons_zero, List.set_cons_succ]
                refine wpZ_take (i := 3) (v := ?_) rfl (by kernel_rfl) (by kernel_rfl) (by kernel_rfl) (by kernel_rfl) (fun _ _ _ h => h) (Or.inl ⟨by rfl, ?_⟩) hHeld ?_
                rotate_left
                · (go_light; intro w9 hSw; (try dsimp only at hSw); go_simp; try with_reducible rfl)
                try simp only [Act.put, List.setIfInBounds_toArray, List.set_cons_zero, List.set_cons_succ]
                refine wpZ_take (i := 4) (v := ?_) rfl (by kernel_rfl) (by kernel_rfl) (by kernel_rfl) (by kernel_rfl) (fun _ _ _ h => h) (Or.inl ⟨by rfl, ?_⟩) hHeld ?_
                rotate_left
                · (go_light; intro w9 hSw; (try dsimp only at hSw); go_simp; try with_reducible rfl)
                try simp only [Act.put, List.setIfInBounds_toArray, List.set_cons_zero, List.set_cons_succ]
                refine wpZ_take (i := 5) (v := ?_) rfl (by kernel_rfl) (by kernel_rfl) (by kernel_rfl) (by kernel_rfl) (fun _ _ _ h => h) (Or.inl ⟨by rfl, ?_⟩) hHeld ?_
                rotate_left
                · (go_light; intro w9 hSw; (try dsimp only at hSw); go_simp; try with_reducible rfl)
                try simp only [Act.put, List.setIfInBounds_toArray, List.set_cons_zero, List.set_cons_succ]
                refine wpZ_take (i := 6) (v := ?_) rfl (by kernel_rfl) (by kernel_rfl) (by kernel_rfl) (by kernel_rfl) (fun _ _ _ h => h) (Or.inl ⟨by rfl, ?_⟩) hHeld ?_
                rotate_left
                · (go_light; intro w9 hSw; (try dsimp only at hSw); go_simp; try with_reducible rfl)
                try simp only [Act.put, List.setIfInBounds_toArray, List.set_cons_zero, List.set_cons_succ]
                refine wpZ_take (i := 7) (v := ?_) rfl (by kernel_rfl) (by kernel_rfl) (by kernel_rfl) (by kernel_rfl) (fun _ _ _ h => h) (Or.inl ⟨by rfl, ?_⟩) hHeld ?_
                rotate_left
                · (go_light; intro w9 hSw; (try dsimp only at hSw); go_simp; try with_reducible rfl)
                try simp only [Act.put, List.setIfInBounds_toArray, List.set_cons_zero, List.set_cons_succ]
                refine wpZ_one (i := 8) rfl (by kernel_rfl) (fun K hK => ?_)
                go_simp
                refine hK.out _ _ (fun _ => HK.out _ _ _ (HB9.out.2.on (by go_grown)) (by simp)) (fun hHeld9 => ?_)
                replace hHeld := hHeld9 (by decide)
                clear hHeld9
                clear hK K
                try simp only [Act.put, List.setIfInBounds_toArray, List.set_cons_zero, List.set_cons_succ]
                refine wpZ_one (i := 9) rfl (by kernel_rfl) (fun K hK => ?_)
                refine step_own_bool (by rfl) _ _ (by rfl) (by rfl) (HO5.out.on (Below.refl _ _).drew) (by rfl) HLen.out.2 ?_
                intro g6 cap6 w6 ho6
                refine hK.out _ _ (fun _ => HK.out _ _ _ ho6.two (by simp)) (fun hHeld9 => ?_)
                replace hHeld := hHeld9 (by decide)
                clear hHeld9
                clear hK K
                try simp only [Act.put, List.setIfInBounds_toArray, List.set_cons_zero, List.set_cons_succ]
                refine wpZ_take (i := 10) (v := ?_) rfl (by kernel_rfl) (by kernel_rfl) (by kernel_rfl) (by kernel_rfl) (fun _ _ _ h => h) (Or.inl ⟨by rfl, ?_⟩) hHeld ?_
                rotate_left
                · (go_light; intro w9 hSw; (try dsimp only at hSw); go_simp; try with_reducible rfl)
                try simp only [Act.put, List.setIfInBounds_toArray, List.set_cons_zero, List.set_cons_succ]
                refine wpZ_one (i := 11) rfl (by kernel_rfl) (fun K hK => ?_)
                have hk4 := (ho6.dcell (g := g) (l := [.int .i64 (n : Int), .int .i64 0, nv9, fv]) (j := 3) (by simp) rfl).2
                go_simp
                refine hK.out _ _ (fun k => absurd rfl k) (fun _ => ?_)
                clear hK K
                try simp only [Act.put, List.setIfInBounds_toArray, List.set_cons_zero, List.set_cons_succ]
                refine wpZ_done (by kernel_rfl) ?_ _
                have HB6 : Hid (PT w1 (w6.setCell ⟨g, 3, none⟩ (.slice (some ⟨g6, 0, none⟩) (bs.length + 1) cap6)) g d l n (w.heap.size + 1) [eInts (rV g4 N) (nb l rs.length N), eFd (.slice (some adp) rs.length cp) rs] (k + 1)) := by
                  have HBf := build_flag HB9.out.1 ho6 rfl
                  refine ⟨nv9, .slice (some ⟨g6, 0, none⟩) (bs.length + 1) cap6, rr9, ?_⟩
                  rw [HFlag.out]
                  exact ⟨HBf.1, (HBf.2.re [6, 0, 1, 2, 3, 4, 5] 7 rfl (by decide)).tail⟩
                clear HO5 ho6 HB9 HK hk4 hHeld HBA
                go_wp2
                go_roundw
                case rel => exact ⟨k + 1, by omega, by go_num, HB6⟩
                case measure => simp [intOf]; omega
          · obtain rfl : k = rs.length := by omega
            have HT : Hid (l.take rs.length = l) := List.take_of_length_le (by rw [HLl.out]; exact Nat.le_refl _)
            rw [HT.out] at HRR HO
            rw [HRl.out] at HTr
            have HSm := Lib.hid (srow_small (S1 d) l (by have := HLl.out; omega))
            have HBd : Hid (Build w1 wr g (eDfa (w.heap.size + 1) zero4 :: [eInts (rV g4 N) (nb l rs.length N), eFd (.slice Ap rs.length cp) rs]) (n : Int) 0 (l.map (srow (S1 d) l)) (l.map (finA d)) nv fv rr) := ⟨HRR.out, HO.out⟩
            rw [HL.out] at HTr
            clear HO HRR
            generalize l.map (srow (S1 d) l) = rows at *
            generalize l.map (finA d) = bs at *
            obtain ⟨A2, c2, F2, cf2, e1, e2⟩ := HBd.out.form
            obtain ⟨hg0, hg1, hg2, hg3⟩ := HBd.out.str
            obtain ⟨hr0, hf0⟩ := HBd.out.res (j := 0) (by omega)
            obtain ⟨hr1, hf1⟩ := HBd.out.res (j := 1) (by omega)
            obtain ⟨hr2, hf2⟩ := HBd.out.res (j := 2) (by omega)
            obtain ⟨hr3, hf3⟩ := HBd.out.res (j := 3) (by omega)
            subst e1 e2
            have HEnd := Lib.hid (build_end HBd.out HSm.out ⟨by omega, by omega⟩ ⟨by omega, by omega⟩ rfl)
            generalize rows.length = nr at *
            generalize bs.length = nb' at *
            go_wp2
            obtain ⟨k1, k3, k4, k5, k6⟩ := HEnd.out
            refine bodyPost_ret (results_dfa rfl _ rfl k3 k4 k5 k6) rfl ⟨_, by rw [HTr.out]; rfl, by rw [HTr.out]; exact k1.base HB.out⟩
  · have HC := Lib.hid (dcheck_bad HV.out g1 rfl)
    have HNo : Hid (trimOut d = (zeroA, e0 + 1)) := by unfold Hid; rw [trimOut_bad (by omega), g1]
    clear h hd1 hw1 hX hB1 HV hsz g1 hX2 hres
    generalize d.next.length = n at *
    generalize d.fin.length = m at *
    generalize hE : ((e0 + 1 : Nat) : Int) = E at *
    have HE := Lib.hid hE
    clear hE
    go_enter Tryd.func55, Tryd.ntmps55
    go_wp2_with fail
    rw [← HW.out]
    refine HC.out.mono ?_
    rintro e w2 ⟨rfl, hb⟩
    have HO2 := Lib.hid (HO.out.on hb)
    obtain ⟨hr0, hf0⟩ := HO2.out.dcell (g := w.heap.size + 1) (l := zero4) (j := 0) (by simp) rfl
    obtain ⟨hr1, hf1⟩ := HO2.out.dcell (g := w.heap.size + 1) (l := zero4) (j := 1) (by simp) rfl
    obtain ⟨hr2, hf2⟩ := HO2.out.dcell (g := w.heap.size + 1) (l := zero4) (j := 2) (by simp) rfl
    obtain ⟨hr3, hf3⟩ := HO2.out.dcell (g := w.heap.size + 1) (l := zero4) (j := 3) (by simp) rfl
    clear hb HC hc0 hc1 hc2 hc3
    have HEnd := Lib.hid (res_bad HO2.out rfl)
    go_wp2
    obtain ⟨k2, k3, k4, k5, k6⟩ := HEnd.out
    refine bodyPost_ret (results_dfa rfl _ rfl k3 k4 k5 k6) rfl ⟨_, by rw [HNo.out, errV_succ, HE.out]; rfl, by rw [HNo.out]; exact dfaOwn_zero (HB.out.trans (k2.mono HB.out.size))⟩
end Go.Proofs.YtbciefeipiphiaaDoor.Rc
