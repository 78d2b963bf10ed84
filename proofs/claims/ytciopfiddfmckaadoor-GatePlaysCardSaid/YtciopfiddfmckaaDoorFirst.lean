/- The walks of package reach's firstFrom and First. -/
import Derived.Test.YtciopfiddfmckaaDoorSearch
namespace Go.Proofs.YtciopfiddfmckaaDoor.Rc
open Go.RowKit Go.IntWalk Go.Proofs.YtciopfiddfmckaaDoor.Wd Go.Proofs.YtciopfiddfmckaaDoor.Wo Go.Proofs.YtciopfiddfmckaaDoor.Df

/-- What firstFrom returns. -/
def FF (d : Aut) (s : Nat) (w : World) (e : Ending) (w' : World) : Prop :=
  (∃ u wv, firstW d s = some u ∧ e = .returned (.tuple #[wv, .bool true]) ∧ Own w w' [] [eInts wv u]) ∨ (firstW d s = none ∧ e = .returned (.tuple #[.slice none 0 0, .bool false]) ∧ Below w.heap.size w w')
def noneYet (d : Aut) (l : List Fd) (k : Nat) : Prop := ∀ j y, j < k → l[j]? = some y → finA d y.1 = false
theorem noneYet_zero (d : Aut) (l : List Fd) : noneYet d l 0 := fun j y hj => by omega
theorem noneYet_succ {d : Aut} {l : List Fd} {k : Nat} {x : Fd} (h : noneYet d l k) (hx : l[k]? = some x) (hf : finA d x.1 = false) : noneYet d l (k + 1) := fun j y hj hy => by
  by_cases e : j < k
  · exact h j y e hy
  · obtain rfl : j = k := by omega
    obtain rfl := Option.some.inj (hx.symm.trans hy)
    exact hf
theorem noneYet_all {d : Aut} {l : List Fd} {k : Nat} (h : noneYet d l k) (hk : l.length ≤ k) : ∀ x ∈ l, finA d x.1 = false := fun x hx => by
  obtain ⟨j, hj, rfl⟩ := List.getElem_of_mem hx
  exact h j _ (by omega) (List.getElem?_eq_getElem hj)
set_option maxRecDepth 100000 in
set_option maxHeartbeats 2000000 in
theorem firstFrom_any (v : Value) (d : Aut) (s : Nat) (w : World) (h : DfaAt w w.heap.size v d) (hg : Df.Good d) (hs : s < d.next.length) :
    Calls Tryd.prog 66 #[v, .int .i64 s] w fun e w' => Hid (FF d s w e w') := by
  have HV := h
  obtain ⟨L, s0, A, c, F, cf, rfl, h⟩ := h
  obtain ⟨w1, hw1, hB1, hX, hd1⟩ := box_dfa w h
  have HB := Lib.hid hB1
  have HX := Lib.hid hX
  have HW := Lib.hid hw1
  have HD := Lib.hid hd1
  have HG := Lib.hid hg
  have HSe := Lib.hid (search_any _ d s w1 (HV.on hB1) hg hs)
  have HSl := Lib.hid hs
  have hc0 := hX.c0
  have hc1 := hX.c1
  have hc2 := hX.c2
  have hc3 := hX.c3
  have hfn := hg.fin
  clear h hd1 hw1 hX hB1 hg HV
  generalize hm : d.fin.length = m at *
  generalize hN : d.next.length = N at *
  have HN := Lib.hid hN
  have hmN : N ≤ m := by omega
  clear hN hm hfn
  go_enter Tryd.func66, Tryd.ntmps66
  go_wp2_with fail
  rw [← HW.out]
  clear HW
  refine HSe.out.mono ?_
  rintro e w2 he
  obtain ⟨pv, rs, h1, hf⟩ := he.out
  subst h1
  have HF := Lib.hid hf
  obtain ⟨Ap, cp, hpv, hcp, hcp2, hpa⟩ := own_fd hf.2.1 (v := pv) (l := rs) (by simp)
  subst hpv
  have HPA := Lib.hid hpa
  have hbw := hf.2.1.below
  have HX := Lib.hid (HX.out.on hbw)
  have HD := Lib.hid (HD.out.on hbw)
  have hr40 : rs.length ≤ 40 := by have := hf.1.part.n40; simpa using this
  have HY : Hid (noneYet d (rs.map (·.1)) 0) := noneYet_zero _ _
  clear he hf hpa hbw HSe hc0 hc1 hc2 hc3
  go_wp2
  go_loopw [12] (fun i wr => ∃ (k : Nat), k ≤ rs.length ∧ i = .int .i64 k ∧ Hid (noneYet d (rs.map (·.1)) k) ∧ Hid (Below w2.heap.size w2 wr)) (fun i _ => rs.length - (intOf i).toNat)
  case atStart => exact ⟨0, by omega, rfl, HY, Below.refl _ _⟩
  case round =>
    clear HY
    obtain ⟨k, hk, rfl, HS, HBr⟩ := hrel
    by_cases hlt : k < rs.length
    · obtain ⟨⟨x, wv⟩, hx⟩ : ∃ q, rs[k]? = some q := ⟨_, List.getElem?_eq_getElem hlt⟩
      have hxl : (rs.map (·.1))[k]? = some x := by rw [List.getElem?_map, hx]; rfl
      have hx1 := HF.out.1.lt HG.out (by rw [HN.out]; exact HSl.out) (List.mem_of_getElem? hxl)
      obtain ⟨adp, hAp, hadp, hp0', hp1'⟩ := fd_at HPA.out hx
      subst hAp
      simp only at hp0' hp1'
      have hp0 := (HBr.out.cell (p := adp.add (k * 2)) (by rw [Wd.block_add]; exact hadp)).trans hp0'
      have hp1 := (HBr.out.cell (p := ⟨(adp.add (k * 2)).block, (adp.add (k * 2)).off + 1, none⟩) (by show (adp.add (k * 2)).block < _; rw [Wd.block_add]; exact hadp)).trans hp1'
      obtain ⟨Aw, cw, hwv, _, _, _⟩ := HF.out.2.1.form (e := eInts wv x.2) (List.mem_append_right _ (List.mem_cons_of_mem _ (List.mem_map.2 ⟨(x, wv), List.mem_of_getElem? hx, rfl⟩)))
      simp only [eInts] at hwv
      have HBa := Lib.hid (HBr.out.trans ((below_alloc wr (.cells #[.int .i64 (x.1 : Int), wv] 129)).mono HBr.out.size))
      have HOw : Hid (Own w (wr.alloc (.cells #[.int .i64 (x.1 : Int), wv] 129)) [] [eInts wv x.2]) := by
        refine ((HF.out.2.1.on HBa.out).base HB.out).weak (fun e he => ?_)
        simp at he; subst he
        exact List.mem_cons_of_mem _ (List.mem_map.2 ⟨(x, wv), List.mem_of_getElem? hx, rfl⟩)
      obtain ⟨adf, hF, hadf, hcf, _⟩ := (HD.out.on HBa.out).fins.at_ (HG.out.fin_at hx1)
      subst hF
      have hc3 := (HX.out.on HBa.out).c3
      rw [HN.out] at hx1
      have e1 : (x.1 : Int) < (m : Int) := by omega
      rcases hfin : finA d x.1 with _ | _
      · have HN1 := Lib.hid (noneYet_succ HS.out hxl hfin)
        rw [hfin] at hcf
        clear hfin hx hxl hx1 hp0' hp1' hadp HOw
        generalize x.2.length = lw at *
        subst hwv
        go_wp2
        go_roundw
        case rel => exact ⟨k + 1, by omega, by go_num, HN1, HBa⟩
        case measure => simp [intOf]; omega
      · have HE : Hid (firstW d s = some x.2) := HF.out.1.srch.first HG.out (by rw [HN.out]; exact HSl.out) (by simp) hxl hfin HS.out
        rw [hfin] at hcf
        have hl := congrArg Value.oneCell' hwv
        clear hfin hx hxl hx1 hp0' hp1' hadp HBa
        generalize hlw : x.2.length = lw at *
        clear hlw hl
        generalize x.2 = u at *
        subst hwv
        go_wp2
        go_ret2
        exact .inl ⟨_, _, HE.out, rfl, HOw.out⟩
    · obtain rfl : k = rs.length := by omega
      have HE : Hid (firstW d s = none) := HF.out.1.srch.none HG.out (by rw [HN.out]; exact HSl.out) (by simp) (noneYet_all HS.out (by simp))
      have HBz := Lib.hid (HB.out.trans ((HF.out.2.1.below.trans (HBr.out.mono HF.out.2.1.below.size)).mono HB.out.size))
      clear HS
      go_wp2
      go_ret2
      exact .inr ⟨HE.out, rfl, HBz.out⟩
/-- What a function returns that gives a list of ints and an error. -/
def IntsR (out : List Int × Nat) (w : World) (e : Ending) (w' : World) : Prop := ∃ wv, e = .returned (.tuple #[wv, errV out.2]) ∧ Own w w' [] [eInts wv out.1]
theorem own_nil {w w' : World} (h : Below w.heap.size w w') : Own w w' [] [eInts (.slice none 0 0) []] := (((own_start w).on h).nil 3 1).fin
def firstOut (d : Aut) : List Int × Nat := if dchk d = 0 then (match firstW d d.s.toNat with | some u => (u, 0) | none => ([], 5)) else ([], dchk d)
theorem firstOut_some {d : Aut} {u : List Int} (h : dchk d = 0) (hf : firstW d d.s.toNat = some u) : firstOut d = (u, 0) := by unfold firstOut; rw [if_pos h, hf]
theorem firstOut_none {d : Aut} (h : dchk d = 0) (hf : firstW d d.s.toNat = none) : firstOut d = ([], 5) := by unfold firstOut; rw [if_pos h, hf]
theorem firstOut_bad {d : Aut} (h : dchk d ≠ 0) : firstOut d = ([], dchk d) := by unfold firstOut; rw [if_neg h]
end Go.Proofs.YtciopfiddfmckaaDoor.Rc
