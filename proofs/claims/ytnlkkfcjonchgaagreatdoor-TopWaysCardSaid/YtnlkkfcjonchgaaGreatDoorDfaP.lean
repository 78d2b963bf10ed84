/- The walks of package dfa's Not and products. The walks of package dfa's products: pairs of states, in the order in which they are found. -/
import Derived.Test.YtnlkkfcjonchgaaGreatDoorDfaW
import Derived.Deep.RegionHeld3
import Derived.Deep.RegionLaw
import Derived.Lib.SliceRun
import Derived.Deep.DeepCutAuto
import Derived.Laws.StructEq

namespace Go.Proofs.YtnlkkfcjonchgaaGreatDoor.Df
open Go.RowKit Go.IntWalk Go.Proofs.YtnlkkfcjonchgaaGreatDoor.Wd Go.Proofs.YtnlkkfcjonchgaaGreatDoor.Wo

set_option maxRecDepth 100000 in
theorem clone_any (A : Option Addr) (c : Nat) (l : List Int) (w : World) (hA : IntsAt w w.heap.size A l) (h0 : 0 < l.length) (hl : l.length ≤ 17592186044416) :
    Calls Tryz.prog 30 #[.slice A l.length c] w fun e w' => Hid (∃ A' cap, e = .returned (.slice A' l.length cap) ∧ Own w w' [eInts (.slice A' l.length cap) l] []) := by
  obtain ⟨ad, rfl, _⟩ := hA.at_ 0 h0
  have HA := Lib.hid hA
  clear hA
  have HO := Lib.hid (Own.lit (own_start w) 3 1 0 #[] rfl (by simp [maxLen]))
  go_enter Tryz.func30, Tryz.ntmps30
  have hnil : ∀ W, (binOp .eql 39 (.slice (some ad) l.length c) (.slice none 0 0)).run Tryz.prog W = .ok (.bool false) W := fun W => Lib.run_eql_slice_nil W _ _ _ _ _ _ _ Tryz.underlying39
  go_wp2_with (at_builtin; refine own_ints (l := []) rfl _ _ rfl rfl HO.out rfl (HA.out.on (below_alloc _ _)) h0 (by simpa using hl) ?_)
  intro g cap w2 ho
  have HO2 := Lib.hid ho
  clear ho HO
  go_wp2
  go_ret
  exact ⟨_, _, rfl, by simpa using HO2.out⟩

/-! ### an automaton that is built -/
abbrev zero4 : List Value := [.int .i64 0, .int .i64 0, .slice none 0 0, .slice none 0 0]
/-- The rows and the flags so far; the struct at block g; xs: what is owned besides. -/
def Build (w1 wr : World) (g : Nat) (xs : List Ent) (L s : Int) (rows : List (List Int)) (bs : List Bool) (nv fv : Value) (rs : List (Value × List Int)) : Prop :=
  rs.map (·.2) = rows ∧ Own w1 wr (eRows nv (rs.map (·.1)) :: eBools fv bs :: eDfa g [.int .i64 L, .int .i64 s, nv, fv] :: xs) (eEach rs)
theorem take_succ_map {α β : Type} (f : α → β) (l : List α) {k : Nat} {x : α} (h : l[k]? = some x) : (l.take (k + 1)).map f = (l.take k).map f ++ [f x] := by
  obtain ⟨h1, h2⟩ := List.getElem?_eq_some_iff.1 h
  rw [← List.take_append_getElem h1, List.map_append, h2]; rfl
theorem take_succ' {α : Type} (l : List α) {k : Nat} {x : α} (h : l[k]? = some x) : l.take (k + 1) = l.take k ++ [x] := by
  obtain ⟨h1, h2⟩ := List.getElem?_eq_some_iff.1 h
  rw [← List.take_append_getElem h1, h2]
theorem Build.c2 {w1 wr : World} {g : Nat} {xs : List Ent} {L s : Int} {rows : List (List Int)} {bs : List Bool} {nv fv : Value} {rs : List (Value × List Int)} (h : Build w1 wr g xs L s rows bs nv fv rs) :
    wr.cell? ⟨g, 2, none⟩ = some nv ∧ wr.frozen? ⟨g, 2, none⟩ = false := h.2.dcell (l := [.int .i64 L, .int .i64 s, nv, fv]) (by simp) rfl
theorem Build.c3 {w1 wr : World} {g : Nat} {xs : List Ent} {L s : Int} {rows : List (List Int)} {bs : List Bool} {nv fv : Value} {rs : List (Value × List Int)} (h : Build w1 wr g xs L s rows bs nv fv rs) :
    wr.cell? ⟨g, 3, none⟩ = some fv ∧ wr.frozen? ⟨g, 3, none⟩ = false := h.2.dcell (l := [.int .i64 L, .int .i64 s, nv, fv]) (by simp) rfl
theorem Build.lt {w1 wr : World} {g : Nat} {xs : List Ent} {L s : Int} {rows : List (List Int)} {bs : List Bool} {nv fv : Value} {rs : List (Value × List Int)} (h : Build w1 wr g xs L s rows bs nv fv rs) :
    w1.heap.size ≤ g ∧ g < wr.heap.size := h.2.lt (ad := ⟨g, 0, none⟩) (xs := [.int .i64 L, .int .i64 s, nv, fv]) (t := 26) (sz := 4) (n := 1) (cap := 1) (by simp [eDfa])
theorem Build.on {w1 wr w2 : World} {g : Nat} {xs : List Ent} {L s : Int} {rows : List (List Int)} {bs : List Bool} {nv fv : Value} {rs : List (Value × List Int)} (h : Build w1 wr g xs L s rows bs nv fv rs) (hb : Below wr.heap.size wr w2) :
    Build w1 w2 g xs L s rows bs nv fv rs := ⟨h.1, h.2.on hb⟩
/-- What the two slices look like. -/
theorem Build.form {w1 wr : World} {g : Nat} {xs : List Ent} {L s : Int} {rows : List (List Int)} {bs : List Bool} {nv fv : Value} {rs : List (Value × List Int)} (h : Build w1 wr g xs L s rows bs nv fv rs) :
    ∃ A c F cf, nv = .slice A rows.length c ∧ fv = .slice F bs.length cf := by
  obtain ⟨A, c, h1, _⟩ := h.2.form (e := eRows nv (rs.map (·.1))) (by simp)
  obtain ⟨F, cf, h2, _⟩ := h.2.form (e := eBools fv bs) (by simp)
  simp only [eRows, eBools, List.length_map] at h1 h2
  exact ⟨A, c, F, cf, by rw [h1, ← h.1, List.length_map], h2⟩
/-- What is built is laid into the result's own block, and reads as an automaton. -/
theorem build_end {w1 wr w2 : World} {g gr : Nat} {xs : List Ent} {L s : Int} {rows : List (List Int)} {bs : List Bool} {nv fv : Value} {rs : List (Value × List Int)} (h : Build w1 wr g (eDfa gr zero4 :: xs) L s rows bs nv fv rs)
    (hs : ∀ r ∈ rows, ∀ x ∈ r, Small x) (hL : Small L) (hS : Small s) (hw : w2 = (((wr.setCell ⟨gr, 0, none⟩ (.int .i64 L)).setCell ⟨gr, 1, none⟩ (.int .i64 s)).setCell ⟨gr, 2, none⟩ nv).setCell ⟨gr, 3, none⟩ fv) :
    DfaOwn w1 w2 (.agg #[.int .i64 L, .int .i64 s, nv, fv]) ⟨L, s, rows, bs⟩ ∧
      w2.cell? ⟨gr, 0, none⟩ = some (.int .i64 L) ∧ w2.cell? ⟨gr, 1, none⟩ = some (.int .i64 s) ∧ w2.cell? ⟨gr, 2, none⟩ = some nv ∧ w2.cell? ⟨gr, 3, none⟩ = some fv := by
  subst hw
  have h2 := (((h.2.four.dset 0 (.int .i64 L)).dset 1 (.int .i64 s)).dset 2 nv).dset 3 fv
  refine ⟨⟨nv, fv, rs, rfl, h.1.symm, h2.two.fin.two.fin.only.weak (fun e he => ?_), (fun p hp => hs _ (by rw [← h.1]; exact List.mem_map.2 ⟨p, hp, rfl⟩)), hL, hS⟩,
    (h2.dcell (g := gr) (l := [.int .i64 L, .int .i64 s, nv, fv]) (by simp) rfl).1, (h2.dcell (g := gr) (l := [.int .i64 L, .int .i64 s, nv, fv]) (by simp) rfl).1, (h2.dcell (g := gr) (l := [.int .i64 L, .int .i64 s, nv, fv]) (by simp) rfl).1, (h2.dcell (g := gr) (l := [.int .i64 L, .int .i64 s, nv, fv]) (by simp) rfl).1⟩
  simp only [List.mem_cons] at he ⊢
  rcases he with he | he | he
  · exact .inr (.inl he)
  · exact .inl he
  · exact .inr (.inr he)
/-- The zero automaton is laid into the result's own block. -/
theorem res_bad {w1 wr w2 : World} {gr : Nat} {es fs : List Ent} (h : Own w1 wr (eDfa gr zero4 :: es) fs)
    (hw : w2 = (((wr.setCell ⟨gr, 0, none⟩ (.int .i64 0)).setCell ⟨gr, 1, none⟩ (.int .i64 0)).setCell ⟨gr, 2, none⟩ (.slice none 0 0)).setCell ⟨gr, 3, none⟩ (.slice none 0 0)) :
    Below w1.heap.size w1 w2 ∧ w2.cell? ⟨gr, 0, none⟩ = some (.int .i64 0) ∧ w2.cell? ⟨gr, 1, none⟩ = some (.int .i64 0) ∧ w2.cell? ⟨gr, 2, none⟩ = some (.slice none 0 0) ∧ w2.cell? ⟨gr, 3, none⟩ = some (.slice none 0 0) := by
  subst hw
  have h2 := (((h.dset 0 (.int .i64 0)).dset 1 (.int .i64 0)).dset 2 (.slice none 0 0)).dset 3 (.slice none 0 0)
  exact ⟨h2.below, (h2.dcell (g := gr) (l := zero4) (by simp) rfl).1, (h2.dcell (g := gr) (l := zero4) (by simp) rfl).1, (h2.dcell (g := gr) (l := zero4) (by simp) rfl).1, (h2.dcell (g := gr) (l := zero4) (by simp) rfl).1⟩
/-- The result's own block, as it was made. -/
theorem Build.res {w1 wr : World} {g gr : Nat} {xs : List Ent} {L s : Int} {rows : List (List Int)} {bs : List Bool} {nv fv : Value} {rs : List (Value × List Int)} (h : Build w1 wr g (eDfa gr zero4 :: xs) L s rows bs nv fv rs) {j : Nat} (hj : j < 4) :
    wr.cell? ⟨gr, j, none⟩ = some zero4[j] ∧ wr.frozen? ⟨gr, j, none⟩ = false := h.2.dcell (g := gr) (l := zero4) (by simp) (List.getElem?_eq_getElem hj)
theorem Build.str {w1 wr : World} {g : Nat} {xs : List Ent} {L s : Int} {rows : List (List Int)} {bs : List Bool} {nv fv : Value} {rs : List (Value × List Int)} (h : Build w1 wr g xs L s rows bs nv fv rs) :
    wr.cell? ⟨g, 0, none⟩ = some (.int .i64 L) ∧ wr.cell? ⟨g, 1, none⟩ = some (.int .i64 s) ∧ wr.cell? ⟨g, 2, none⟩ = some nv ∧ wr.cell? ⟨g, 3, none⟩ = some fv :=
  ⟨(h.2.dcell (l := [.int .i64 L, .int .i64 s, nv, fv]) (by simp) rfl).1, (h.2.dcell (l := [.int .i64 L, .int .i64 s, nv, fv]) (by simp) rfl).1, h.c2.1, h.c3.1⟩
/-- A row is laid to what is built. -/
theorem build_row {w1 w2 w3 : World} {g : Nat} {xs : List Ent} {L s : Int} {rows : List (List Int)} {bs : List Bool} {nv fv nv' x : Value} {rs : List (Value × List Int)} {r : List Int} (hm : rs.map (·.2) = rows)
    (h : Own w1 w3 (eRows nv' (rs.map (·.1) ++ [x]) :: eInts x r :: eBools fv bs :: eDfa g [.int .i64 L, .int .i64 s, nv, fv] :: xs) (eEach rs)) (hw : w2 = w3.setCell ⟨g, 2, none⟩ nv') :
    Build w1 w2 g xs L s (rows ++ [r]) bs nv' fv (rs ++ [(x, r)]) := by
  subst hw
  have h2 := (h.two.fin).three.dset 2 nv'
  refine ⟨by rw [List.map_append, hm]; rfl, ?_⟩
  have h3 := h2.three'.weak (fs' := eEach (rs ++ [(x, r)])) (fun e he => by
    unfold eEach at he ⊢
    rw [List.map_append] at he
    rcases List.mem_append.1 he with he | he
    · exact List.mem_cons_of_mem _ he
    · simp at he; subst he; exact List.mem_cons_self)
  simpa using h3
/-- A flag is laid to what is built. -/
theorem build_flag {w1 w2 w3 : World} {g : Nat} {xs : List Ent} {L s : Int} {rows : List (List Int)} {bs : List Bool} {nv fv fv' : Value} {rs : List (Value × List Int)} {b : Bool} (hm : rs.map (·.2) = rows)
    (h : Own w1 w3 (eBools fv' (bs ++ [b]) :: eRows nv (rs.map (·.1)) :: eDfa g [.int .i64 L, .int .i64 s, nv, fv] :: xs) (eEach rs)) (hw : w2 = w3.setCell ⟨g, 3, none⟩ fv') :
    Build w1 w2 g xs L s rows (bs ++ [b]) nv fv' rs := by
  subst hw
  exact ⟨hm, ((h.three.dset 3 fv').three').two⟩

theorem Good.small_L {d : Aut} (g : Good d) : Small d.L := ⟨by have := g.l1; omega, by have := g.l6; omega⟩
theorem Good.small_s {d : Aut} (g : Good d) : Small d.s := ⟨by have := g.st.1; omega, by have := g.st.2; have := g.n40; omega⟩
theorem good_small {d : Aut} (g : Good d) : ∀ r ∈ d.next, ∀ x ∈ r, Small x := fun r hr x hx => by
  have h := g.go r hr x hx
  have := g.n40
  exact ⟨by have := h.1; omega, by have := h.2; omega⟩

/-! ### Not -/
set_option maxRecDepth 100000 in
set_option maxHeartbeats 2000000 in
theorem not_any (v : Value) (d : Aut) (w : World) (h : DfaAt w w.heap.size v d) :
    Calls Tryz.prog 10 #[v] w fun e w' => Hid (∃ x, e = .returned (.tuple #[x, errV (notOut d).2]) ∧ DfaOwn w w' x (notOut d).1) := by
  have HV := h
  obtain ⟨L, s, A, c, F, cf, rfl, h⟩ := h
  obtain ⟨w1, hw1, hB1, hX, hd1⟩ := box_dfa w h
  have HB := Lib.hid hB1
  have HX := Lib.hid hX
  have HW := Lib.hid hw1
  have HD := Lib.hid hd1
  have hres := below_alloc w1 (.cells #[.int .i64 0, .int .i64 0, .slice none 0 0, .slice none 0 0] 26)
  have hX2 := hX.on hres
  have hc0 := hX2.c0
  have hc1 := hX2.c1
  have hc2 := hX2.c2
  have hc3 := hX2.c3
  have HO := Lib.hid ((own_start w1).dfa (.int .i64 0) (.int .i64 0) (.slice none 0 0) (.slice none 0 0))
  have HV := (HV.on hB1).on hres
  have hsz : w1.heap.size = w.heap.size + 1 := by rw [hw1]; simp
  rw [hsz] at HO
  rcases g1 : dchk d with _ | e0
  · have HC := Lib.hid (dcheck_ok HV g1)
    have HG : Hid (Good d) := dchk_iff.1 g1
    have hn : d.next.length ≤ 40 := HG.out.n40
    have HE : Hid (d.L = L ∧ d.s = s) := ⟨h.eL, h.es⟩
    clear h hd1 hw1 hX hB1 HV hres hsz
    go_enter Tryz.func10, Tryz.ntmps10
    go_wp2_with fail
    rw [← HW.out]
    refine HC.out.mono ?_
    rintro e w2 ⟨rfl, hb⟩
    clear hc0 hc1 hc2 hc3
    have hX3 := hX2.on hb
    have hc0 := hX3.c0
    have hc1 := hX3.c1
    have hc2 := hX3.c2
    have hc3 := hX3.c3
    have hlt := hX3.lt
    have HS : Hid (Build w1 (w2.alloc (.cells #[.int .i64 L, .int .i64 s, .slice none 0 0, .slice none 0 0] 26)) w2.heap.size [eDfa (w.heap.size + 1) zero4] L s (d.next.take 0) ((d.fin.take 0).map (!·)) (.slice none 0 0) (.slice none 0 0) []) :=
      ⟨rfl, ((((HO.out.on hb).dfa (.int .i64 L) (.int .i64 s) (.slice none 0 0) (.slice none 0 0)).nil 4 1).nil 39 1)⟩
    clear hb HC hX2 hX3 HO
    go_wp2
    clear hc0 hc1 hc2 hc3 hlt
    generalize w2.heap.size = g at *
    go_loopw [22] (fun i wr => ∃ (k : Nat), k ≤ d.next.length ∧ i = .int .i64 k ∧ Hid (∃ nv fv rs, Build w1 wr g [eDfa (w.heap.size + 1) zero4] L s (d.next.take k) ((d.fin.take k).map (!·)) nv fv rs)) (fun i _ => d.next.length - (intOf i).toNat)
    case atStart => exact ⟨0, by omega, rfl, _, _, _, HS.out⟩
    case round =>
      clear HS
      obtain ⟨k, hk, rfl, HS⟩ := hrel
      obtain ⟨nv, fv, rs, ho⟩ := HS.out
      have HO := Lib.hid ho
      have hbw := ho.2.below
      have hXw := HX.out.on hbw
      have hDw := HD.out.on hbw
      have HDw := Lib.hid hDw
      clear HS ho hbw
      by_cases hlt : k < d.next.length
      · obtain ⟨ad, A', c', rfl, hadb, hcell, hrc, hcc, hri⟩ := hDw.rows k _ (List.getElem?_eq_getElem hlt)
        have hrl := HG.out.row _ (List.getElem_mem hlt)
        have hL1 := HG.out.l1
        have hL6 := HG.out.l6
        have HCl := Lib.hid (fun W (hb : Below wr.heap.size wr W) => clone_any A' c' d.next[k] W (hri.on hb) (by omega) (by omega))
        have hc2 := HO.out.c2.1
        clear hrl hL1 hL6 hri hrc hcc hDw
        go_wp2_with fail
        have HLen : Hid ((rs.map (·.1)).length < 1099511627776) := by
          have := congrArg List.length HO.out.1
          rw [List.length_map, List.length_take] at this
          unfold Hid; rw [List.length_map]; omega
        go_cut [] (fun wc => Hid (∃ nv rs, Build w1 wc g [eDfa (w.heap.size + 1) zero4] L s (d.next.take (k + 1)) ((d.fin.take k).map (!·)) nv fv rs))
        case first =>
          go_region_law
            (first
              | (refine step_own_row (by rfl) _ _ (by rfl) (by rfl) HO3.out.two (by rfl) (by rfl) HLen.out ?_; intro g4 cap4 w4 ho4; have HO4 := Lib.hid ho4; have hk4 := (ho4.dcell (g := g) (l := [.int .i64 L, .int .i64 s, nv, fv]) (j := 2) (by simp) rfl); have hk5 := hk4.1; have hk6 := hk4.2; clear ho4 hk4)
              | (go_simp; go_at_call 30; refine (HCl.out _ (Below.refl _ _).drew).mono ?_; rintro e w3 he; obtain ⟨Ax, cx, h1, ho⟩ := he.out; subst h1; have HO3 := Lib.hid ((HO.out.2.on (Below.refl _ _).drew).join ho); have hk0 := (HO.out.on ((Below.refl _ _).drew.trans ho.below)); have hk3 := hk0.c2.1; have hk3l := hk0.lt.2; clear ho hk0; try simp only []))
          all_goals
            have HB5 : Hid (∃ nv' rs', Build w1 (w4.setCell ⟨g, 2, none⟩ (.slice (some ⟨g4, 0, none⟩) (rs.length + 1) cap4)) g [eDfa (w.heap.size + 1) zero4] L s (d.next.take (k + 1)) ((d.fin.take k).map (!·)) nv' fv rs') := by
              have h4 := HO4.out
              rw [List.length_map] at h4
              rw [take_succ' _ (List.getElem?_eq_getElem hlt)]
              exact ⟨_, _, build_row HO.out.1 h4 rfl⟩
            clear HO3 HO4 HO HCl hk3 hk3l hk5 hk6 hcell hc2 HLen
            go_wp2_with fail
            go_meet
            exact HB5
        case rest =>
          obtain ⟨nv5, rs5, hb5⟩ := hcut.out
          have HB5 := Lib.hid hb5
          have hlf : k < d.fin.length := by rw [HG.out.fin]; exact hlt
          clear HO HCl hcell hc2 HLen hcut hb5
          have hbw := HB5.out.2.below
          obtain ⟨adf, hF, hadf, hcf, _⟩ := (HD.out.on hbw).fins.at_ (List.getElem?_eq_getElem hlf)
          subst hF
          have hX5 := HX.out.on hbw
          have hc3 := hX5.c3
          have hc3' := HB5.out.c3.1
          have hc3l := HB5.out.lt.2
          have hc5l := hX5.lt
          have hlf' : (k : Int) < (d.fin.length : Int) := by omega
          have HE2 : Hid ((d.fin.take (k + 1)).map (!·) = (d.fin.take k).map (!·) ++ [!d.fin[k]]) := take_succ_map _ _ (List.getElem?_eq_getElem hlf)
          have HLen : Hid (((d.fin.take k).map (!·)).length < 17592186044416) := by
            unfold Hid; rw [List.length_map, List.length_take]; omega
          have HO5 := Lib.hid HB5.out.2.two
          clear hbw hX5
          generalize (d.fin.take k).map (!·) = bs at *
          generalize d.fin[k] = b at *
          go_wp2_with fail
          go_region_law
            ((refine step_own_bool (by rfl) _ _ (by rfl) (by rfl) (HO5.out.on (Below.refl _ _).drew) (by rfl) HLen.out ?_; intro g6 cap6 w6 ho6; have HO6 := Lib.hid ho6; have hk4 := (ho6.dcell (g := g) (l := [.int .i64 L, .int .i64 s, nv5, fv]) (j := 3) (by simp) rfl); have hk5 := hk4.1; have hk6 := hk4.2; clear ho6 hk4))
          all_goals
            have HB6 : Hid (∃ nv' fv' rs', Build w1 (w6.setCell ⟨g, 3, none⟩ (.slice (some ⟨g6, 0, none⟩) (bs.length + 1) cap6)) g [eDfa (w.heap.size + 1) zero4] L s (d.next.take (k + 1)) ((d.fin.take (k + 1)).map (!·)) nv' fv' rs') := by
              rw [HE2.out]
              exact ⟨_, _, _, build_flag HB5.out.1 HO6.out rfl⟩
            clear HO5 HO6 HB5 hk5 hk6 HLen hc3 hc3' hc3l hc5l hcf
            go_wp2
            go_roundw
            case rel => exact ⟨k + 1, by omega, by go_num, HB6⟩
            case measure => simp [intOf]; omega
      · obtain rfl : k = d.next.length := by omega
        have HG2 := Lib.hid HO.out
        rw [List.take_length, List.take_of_length_le (by rw [HG.out.fin]; exact Nat.le_refl _)] at HG2
        have HSm : Hid (∀ r ∈ d.next, ∀ x ∈ r, Small x) := good_small HG.out
        have HL : Hid (Small L ∧ Small s) := ⟨by rw [← HE.out.1]; exact HG.out.small_L, by rw [← HE.out.2]; exact HG.out.small_s⟩
        have HNo : Hid (notOut d = (⟨L, s, d.next, d.fin.map (!·)⟩, 0)) := by unfold notOut Hid; rw [if_pos (dchk_iff.2 HG.out)]; unfold notA; rw [HE.out.1, HE.out.2]
        clear HO
        generalize d.fin.map (!·) = bs at *
        obtain ⟨A2, c2, F2, cf2, e1, e2⟩ := HG2.out.form
        obtain ⟨hg0, hg1, hg2, hg3⟩ := HG2.out.str
        obtain ⟨hr0, hf0⟩ := HG2.out.res (j := 0) (by omega)
        obtain ⟨hr1, hf1⟩ := HG2.out.res (j := 1) (by omega)
        obtain ⟨hr2, hf2⟩ := HG2.out.res (j := 2) (by omega)
        obtain ⟨hr3, hf3⟩ := HG2.out.res (j := 3) (by omega)
        subst e1 e2
        have HEnd := Lib.hid (build_end HG2.out HSm.out HL.out.1 HL.out.2 rfl)
        go_wp2
        obtain ⟨k1, k3, k4, k5, k6⟩ := HEnd.out
        refine bodyPost_ret (results_dfa rfl _ rfl k3 k4 k5 k6) rfl ⟨_, by rw [HNo.out]; rfl, by rw [HNo.out]; exact k1.base HB.out⟩
  · have HC := Lib.hid (dcheck_bad HV g1 rfl)
    have HNo : Hid (notOut d = (zeroA, e0 + 1)) := by unfold notOut Hid; rw [if_neg (by omega), g1]
    clear h hd1 hw1 hX hB1 HV hsz g1
    generalize d.next.length = n at *
    generalize d.fin.length = m at *
    generalize hE : ((e0 + 1 : Nat) : Int) = E at *
    have HE := Lib.hid hE
    clear hE
    go_enter Tryz.func10, Tryz.ntmps10
    go_wp2_with fail
    rw [← HW.out]
    refine HC.out.mono ?_
    rintro e w2 ⟨rfl, hb⟩
    have HO2 := Lib.hid (HO.out.on hb)
    have hr0 := HO2.out.dcell (g := w.heap.size + 1) (l := zero4) (j := 0) (by simp) rfl
    have hr1 := HO2.out.dcell (g := w.heap.size + 1) (l := zero4) (j := 1) (by simp) rfl
    have hr2 := HO2.out.dcell (g := w.heap.size + 1) (l := zero4) (j := 2) (by simp) rfl
    have hr3 := HO2.out.dcell (g := w.heap.size + 1) (l := zero4) (j := 3) (by simp) rfl
    obtain ⟨hr0, hf0⟩ := hr0
    obtain ⟨hr1, hf1⟩ := hr1
    obtain ⟨hr2, hf2⟩ := hr2
    obtain ⟨hr3, hf3⟩ := hr3
    clear hb HC hX2 hc0 hc1 hc2 hc3 hres
    have HEnd := Lib.hid (res_bad HO2.out rfl)
    go_wp2
    obtain ⟨k2, k3, k4, k5, k6⟩ := HEnd.out
    refine bodyPost_ret (results_dfa rfl _ rfl k3 k4 k5 k6) rfl ⟨_, by rw [HNo.out, errV_succ, HE.out]; rfl, by rw [HNo.out]; exact dfaOwn_zero (HB.out.trans (k2.mono HB.out.size))⟩
end Go.Proofs.YtnlkkfcjonchgaaGreatDoor.Df

namespace Go.Proofs.YtnlkkfcjonchgaaGreatDoor.Df
open Go.RowKit Go.IntWalk Go.Proofs.YtnlkkfcjonchgaaGreatDoor.Wd Go.Proofs.YtnlkkfcjonchgaaGreatDoor.Wo

/-! ### rows of pairs -/
def pcells (l : List (Nat × Nat)) : List Value := l.flatMap fun p => [.int .i64 ((p.1 : Nat) : Int), .int .i64 ((p.2 : Nat) : Int)]
theorem pcells_get : ∀ (l : List (Nat × Nat)) (k : Nat) (p : Nat × Nat), l[k]? = some p → (pcells l)[k * 2]? = some (.int .i64 ((p.1 : Nat) : Int)) ∧ (pcells l)[k * 2 + 1]? = some (.int .i64 ((p.2 : Nat) : Int))
  | [], k, p, h => by simp at h
  | q :: l, 0, p, h => by
    simp only [List.getElem?_cons_zero, Option.some.injEq] at h
    subst h
    exact ⟨rfl, rfl⟩
  | q :: l, k + 1, p, h => by
    rw [List.getElem?_cons_succ] at h
    have := pcells_get l k p h
    have e : pcells (q :: l) = .int .i64 ((q.1 : Nat) : Int) :: .int .i64 ((q.2 : Nat) : Int) :: pcells l := rfl
    rw [e, show (k + 1) * 2 = k * 2 + 1 + 1 by omega]
    simpa using this
def PairsAt (w : World) (B : Nat) (A : Option Addr) (l : List (Nat × Nat)) : Prop := Cells w B A (pcells l)
theorem PairsAt.on {w w' : World} {A : Option Addr} {l : List (Nat × Nat)} (h : PairsAt w w.heap.size A l) (hb : Below w.heap.size w w') : PairsAt w' w'.heap.size A l := (Cells.below h hb).more hb.size
theorem PairsAt.at_ {w : World} {B : Nat} {A : Option Addr} {l : List (Nat × Nat)} (h : PairsAt w B A l) {k : Nat} {p : Nat × Nat} (hk : l[k]? = some p) :
    ∃ ad, A = some ad ∧ ad.block < B ∧ w.cell? (ad.add (k * 2)) = some (.int .i64 ((p.1 : Nat) : Int)) ∧ w.cell? ⟨(ad.add (k * 2)).block, (ad.add (k * 2)).off + 1, none⟩ = some (.int .i64 ((p.2 : Nat) : Int)) := by
  obtain ⟨h1, h2⟩ := pcells_get l k p hk
  obtain ⟨ad, e, h3, h4⟩ := h _ _ h1
  obtain ⟨ad2, e2, _, h6⟩ := h _ _ h2
  obtain rfl := Option.some.inj (e.symm.trans e2)
  exact ⟨ad, e, h3, h4, by rw [← Addr.add_succ' (ad.add (k * 2)) 0, Addr.add_add]; exact h6⟩
/-! ### numbered -/
/-! ### checkBoth -/
end Go.Proofs.YtnlkkfcjonchgaaGreatDoor.Df
