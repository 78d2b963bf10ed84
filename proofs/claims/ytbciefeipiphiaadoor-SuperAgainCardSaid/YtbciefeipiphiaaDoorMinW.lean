/- The walk of package small's Minimal, and its contract as the laws' walks use it. -/
import Derived.Test.YtbciefeipiphiaaDoorMerged
import Derived.Test.YtbciefeipiphiaaDoorDfaV

namespace Go.Proofs.YtbciefeipiphiaaDoor.Mp
open Go.RowKit Go.IntWalk Go.Proofs.YtbciefeipiphiaaDoor.Wd Go.Proofs.YtbciefeipiphiaaDoor.Wo Go.Proofs.YtbciefeipiphiaaDoor.Df Go.Proofs.YtbciefeipiphiaaDoor.Rc Go.Proofs.YtbciefeipiphiaaDoor.Sm

def minOut (d : Aut) : Aut × Nat := if dchk d = 0 then (minA d, 0) else (zeroA, dchk d)
theorem minOut_ok {d : Aut} (h : dchk d = 0) : minOut d = (minA d, 0) := by unfold minOut; rw [if_pos h]
theorem minOut_bad {d : Aut} (h : dchk d ≠ 0) : minOut d = (zeroA, dchk d) := by unfold minOut; rw [if_neg h]
theorem cell_four {W : World} {g h j : Nat} (hne : h ≠ g) (a b c d : Value) : ((((W.setCell ⟨g, 0, none⟩ a).setCell ⟨g, 1, none⟩ b).setCell ⟨g, 2, none⟩ c).setCell ⟨g, 3, none⟩ d).cell? ⟨h, j, none⟩ = W.cell? ⟨h, j, none⟩ := by
  simp only [World.cell?]
  rw [heap_setCell_other _ _ _ _ (by exact hne), heap_setCell_other _ _ _ _ (by exact hne), heap_setCell_other _ _ _ _ (by exact hne), heap_setCell_other _ _ _ _ (by exact hne)]
/-- What a callee has made is laid into a block of the call's own. -/
theorem dfa_into {w1 w5 w6 : World} {gr : Nat} {L s : Int} {nv fv : Value} {d : Aut} (ho : Own w1 w5 [eDfa gr zero4] []) (hx : DfaOwn w5 w6 (.agg #[.int .i64 L, .int .i64 s, nv, fv]) d) :
    DfaOwn w1 ((((w6.setCell ⟨gr, 0, none⟩ (.int .i64 L)).setCell ⟨gr, 1, none⟩ (.int .i64 s)).setCell ⟨gr, 2, none⟩ nv).setCell ⟨gr, 3, none⟩ fv) (.agg #[.int .i64 L, .int .i64 s, nv, fv]) d ∧
      ((((w6.setCell ⟨gr, 0, none⟩ (.int .i64 L)).setCell ⟨gr, 1, none⟩ (.int .i64 s)).setCell ⟨gr, 2, none⟩ nv).setCell ⟨gr, 3, none⟩ fv).cell? ⟨gr, 0, none⟩ = some (.int .i64 L) ∧
      ((((w6.setCell ⟨gr, 0, none⟩ (.int .i64 L)).setCell ⟨gr, 1, none⟩ (.int .i64 s)).setCell ⟨gr, 2, none⟩ nv).setCell ⟨gr, 3, none⟩ fv).cell? ⟨gr, 1, none⟩ = some (.int .i64 s) ∧
      ((((w6.setCell ⟨gr, 0, none⟩ (.int .i64 L)).setCell ⟨gr, 1, none⟩ (.int .i64 s)).setCell ⟨gr, 2, none⟩ nv).setCell ⟨gr, 3, none⟩ fv).cell? ⟨gr, 2, none⟩ = some nv ∧
      ((((w6.setCell ⟨gr, 0, none⟩ (.int .i64 L)).setCell ⟨gr, 1, none⟩ (.int .i64 s)).setCell ⟨gr, 2, none⟩ nv).setCell ⟨gr, 3, none⟩ fv).cell? ⟨gr, 3, none⟩ = some fv := by
  obtain ⟨nv', fv', rs, e, h2, h3, h4, h5, h6⟩ := hx
  have h := ho.join h3
  have h7 := (((h.dset 0 (.int .i64 L)).dset 1 (.int .i64 s)).dset 2 nv).dset 3 fv
  exact ⟨⟨nv', fv', rs, e, h2, h7.only.weak (fun e he => List.mem_append_left _ he), h4, h5, h6⟩,
    (h7.dcell (g := gr) (l := [.int .i64 L, .int .i64 s, nv, fv]) (by simp) rfl).1, (h7.dcell (g := gr) (l := [.int .i64 L, .int .i64 s, nv, fv]) (by simp) rfl).1, (h7.dcell (g := gr) (l := [.int .i64 L, .int .i64 s, nv, fv]) (by simp) rfl).1, (h7.dcell (g := gr) (l := [.int .i64 L, .int .i64 s, nv, fv]) (by simp) rfl).1⟩
set_option linter.unusedSimpArgs false in
set_option maxRecDepth 100000 in
set_option maxHeartbeats 2000000 in
theorem minimal_any (v : Value) (d : Aut) (w : World) (h : DfaAt w w.heap.size v d) :
    Calls Tryd.prog 32 #[v] w fun e w' => Hid (∃ x, e = .returned (.tuple #[x, errV (minOut d).2]) ∧ DfaOwn w w' x (minOut d).1) := by
  have HV := h
  obtain ⟨L, s, A, c, F, cf, rfl, h⟩ := h
  obtain ⟨w1, hw1, hB1, hX, hd1⟩ := box_dfa w h
  have HB := Lib.hid hB1
  have HX := Lib.hid hX
  have HW := Lib.hid hw1
  have hres := below_alloc w1 (.cells #[.int .i64 0, .int .i64 0, .slice none 0 0, .slice none 0 0] 25)
  have hX2 := hX.on hres
  have HX2 := Lib.hid hX2
  have hc0 := hX2.c0
  have hc1 := hX2.c1
  have hc2 := hX2.c2
  have hc3 := hX2.c3
  have HO := Lib.hid ((own_start w1).dfa (.int .i64 0) (.int .i64 0) (.slice none 0 0) (.slice none 0 0))
  have HV := Lib.hid ((HV.on hB1).on hres)
  have hsz : w1.heap.size = w.heap.size + 1 := by rw [hw1]; simp
  rw [hsz] at HO
  have HTr := Lib.hid (trim_any _ d _ HV.out)
  clear h hd1 hw1 hX hB1 hX2 hres hsz HV
  generalize d.next.length = N at *
  generalize d.fin.length = m at *
  go_enter Tryd.func32, Tryd.ntmps32
  go_wp2_with fail
  rw [← HW.out]
  clear HW
  refine HTr.out.mono ?_
  rintro e w2 he
  obtain ⟨x, h1, ho⟩ := he.out
  subst h1
  have HO2 := Lib.hid (HO.out.on ho.below)
  have HD2 := Lib.hid ho.at_
  have hb2 := ho.below
  clear he ho HTr hc0 hc1 hc2 hc3 HX2 HO
  rcases g1 : dchk d with _ | e0
  · rw [trimOut_ok g1] at HD2
    rw [trimOut_ok g1]
    have hg := dchk_iff.1 g1
    have HG := Lib.hid (trim_good hg)
    have HMin : Hid (∀ cl, Sm.Fine (trimA d) cl → mergedN (trimA d) cl (trimA d).next.length = minA d) := fun cl hc => trimmed_min hg hc
    have HOut := Lib.hid (minOut_ok g1)
    obtain ⟨L2, s2, A2, n2, c2, F2, m2, k2, rfl⟩ := HD2.out.form
    clear g1 hg
    obtain ⟨u3, hu3, hb3, VA0⟩ := var_new w2 HD2.out
    have VA := Lib.hid VA0
    have W3 := Lib.hid hu3
    have HO3 := Lib.hid (HO2.out.on hb3)
    have HLt : Hid (w.heap.size + 1 < w2.heap.size) := (HO2.out.lt (ad := ⟨w.heap.size + 1, 0, none⟩) (xs := zero4) (t := 25) (sz := 4) (n := 1) (cap := 1) (by simp [eDfa])).2
    have hb4 := hb2.trans (hb3.mono hb2.size)
    obtain ⟨g4, hg4⟩ : ∃ g4, g4 = w2.heap.size := ⟨_, rfl⟩
    rw [← hg4] at VA
    have HCl := Lib.hid (fun W v (h : DfaAt W W.heap.size v (trimA d)) => classes_any v (trimA d) W h HG.out)
    have HMg := Lib.hid (fun W v cl (h : DfaAt W W.heap.size v (trimA d)) hf => merged_any v (trimA d) cl W h HG.out hf)
    have HK : Hid (∀ W, Below u3.heap.size u3 W → W.cell? ⟨g4, 0, none⟩ = some (.int .i64 L2) ∧ W.cell? ⟨g4, 1, none⟩ = some (.int .i64 s2) ∧ W.cell? ⟨g4, 2, none⟩ = some (.slice A2 n2 c2) ∧ W.cell? ⟨g4, 3, none⟩ = some (.slice F2 m2 k2)) := fun W hW => by
      have h := VA.out.box.on hW
      exact ⟨h.c0, h.c1, h.c2, h.c3⟩
    have HBu := Lib.hid hb4
    obtain ⟨gr, hgr⟩ : ∃ gr, gr = w.heap.size + 1 := ⟨_, rfl⟩
    rw [← hgr] at HO3
    rw [show errV 0 = Value.nilIface from rfl]
    clear hu3 hb3 VA0 hb4 hb2 HO2 HD2
    go_wp2_with fail
    rw [← W3.out]
    rw [← hg4, ← hgr]
    have hne : g4 ≠ gr := by
      have := (HO3.out.lt (ad := ⟨gr, 0, none⟩) (xs := zero4) (t := 25) (sz := 4) (n := 1) (cap := 1) (by simp [eDfa]))
      have := HLt.out
      omega
    clear W3 hg4 hgr HLt
    refine wp_region_Z (fun W => W.cell? ⟨g4, 0, none⟩ = some (.int .i64 L2) ∧ W.cell? ⟨g4, 1, none⟩ = some (.int .i64 s2) ∧ W.cell? ⟨g4, 2, none⟩ = some (.slice A2 n2 c2) ∧ W.cell? ⟨g4, 3, none⟩ = some (.slice F2 m2 k2)) 5 (by kernel_rfl) (HK.out _ (Below.refl _ _).drew) (fun hHeld => ?_)
    refine wpZ_take (i := 0) (v := ?_) rfl (by kernel_rfl) (by kernel_rfl) (by kernel_rfl) (by kernel_rfl) (fun _ _ _ h => h) (Or.inl ⟨by rfl, ?_⟩) hHeld ?_
    rotate_left
    · (go_light; intro w9 hSw; (try dsimp only at hSw); go_simp; try with_reducible rfl)
    try simp only [Act.put, List.setIfInBounds_toArray, List.set_cons_zero, List.set_cons_succ]
    refine wpZ_take (i := 1) (v := ?_) rfl (by kernel_rfl) (by kernel_rfl) (by kernel_rfl) (by kernel_rfl) (fun _ _ _ h => h) (Or.inl ⟨by rfl, ?_⟩) hHeld ?_
    rotate_left
    · (go_light; intro w9 hSw; (try dsimp only at hSw); go_simp; try with_reducible rfl)
    try simp only [Act.put, List.setIfInBounds_toArray, List.set_cons_zero, List.set_cons_succ]
    refine wpZ_one (i := 2) rfl (by kernel_rfl) (fun K hK => ?_)
    go_simp
    refine (HCl.out _ _ (VA.out.at_.on (Below.refl _ _).drew)).mono ?_
    rintro e w5 ⟨he, hb5⟩
    obtain ⟨cl, h5, hfi⟩ := he.out
    subst h5
    have HFi := Lib.hid hfi
    have HB5 := Lib.hid ((Below.refl u3.heap.size u3).drew.trans hb5)
    clear he hb5 hfi
    try simp only []
    refine hK.out _ _ (fun _ => HK.out _ HB5.out) (fun hHeld9 => ?_)
    replace hHeld := hHeld9 (by decide)
    clear hHeld9
    clear hK K
    try simp only [Act.put, List.setIfInBounds_toArray, List.set_cons_zero, List.set_cons_succ]
    refine wpZ_one (i := 3) rfl (by kernel_rfl) (fun K hK => ?_)
    go_simp
    refine (HMg.out _ _ _ (VA.out.at_.on HB5.out) HFi.out).mono ?_
    rintro e w6 he
    obtain ⟨x, h6, ho6⟩ := he.out
    subst h6
    rw [HMin.out cl HFi.out] at ho6
    have HO6 := Lib.hid ho6
    have HB6 := Lib.hid (HB5.out.trans (ho6.below.mono HB5.out.size))
    obtain ⟨nv, fv, A5, n5, c5, F5, m5, k5, e6, e7, e8⟩ := ho6.form
    generalize (minA d).L = L5 at *
    generalize (minA d).s = s5 at *
    subst e6 e7 e8
    clear he ho6
    try simp only []
    refine hK.out _ _ (fun _ => HK.out _ HB6.out) (fun hHeld9 => ?_)
    replace hHeld := hHeld9 (by decide)
    clear hHeld9
    clear hK K
    try simp only [Act.put, List.setIfInBounds_toArray, List.set_cons_zero, List.set_cons_succ]
    refine wpZ_one (i := 4) rfl (by kernel_rfl) (fun K hK => ?_)
    have hr := HO3.out.on HB6.out
    obtain ⟨hr0, hf0⟩ := hr.dcell (g := gr) (l := zero4) (j := 0) (by simp) rfl
    obtain ⟨hr1, hf1⟩ := hr.dcell (g := gr) (l := zero4) (j := 1) (by simp) rfl
    obtain ⟨hr2, hf2⟩ := hr.dcell (g := gr) (l := zero4) (j := 2) (by simp) rfl
    obtain ⟨hr3, hf3⟩ := hr.dcell (g := gr) (l := zero4) (j := 3) (by simp) rfl
    go_simp
    refine hK.out _ _ (fun _ => ⟨(cell_four hne _ _ _ _).trans (HK.out _ HB6.out).1, (cell_four hne _ _ _ _).trans (HK.out _ HB6.out).2.1, (cell_four hne _ _ _ _).trans (HK.out _ HB6.out).2.2.1, (cell_four hne _ _ _ _).trans (HK.out _ HB6.out).2.2.2⟩) (fun hHeld9 => ?_)
    replace hHeld := hHeld9 (by decide)
    clear hHeld9
    clear hK K
    try simp only [Act.put, List.setIfInBounds_toArray, List.set_cons_zero, List.set_cons_succ]
    refine wpZ_one (i := 5) rfl (by kernel_rfl) (fun K hK => ?_)
    go_simp
    refine hK.out _ _ (fun k => absurd rfl k) (fun _ => ?_)
    clear hK K
    try simp only [Act.put, List.setIfInBounds_toArray, List.set_cons_zero, List.set_cons_succ]
    refine wpZ_done (by kernel_rfl) ?_ _
    obtain ⟨k1, k3, k4, k5', k6⟩ := dfa_into (HO3.out.on HB5.out) HO6.out
    have HEnd := Lib.hid (k1.base HB.out)
    clear hHeld HK HO3 HO6 VA HX
    go_wp2
    refine bodyPost_ret (results_dfa rfl _ rfl k3 k4 k5' k6) rfl ⟨_, by rw [HOut.out]; rfl, by rw [HOut.out]; exact HEnd.out⟩
  · have HNo : Hid (minOut d = (zeroA, e0 + 1)) := by unfold Hid; rw [minOut_bad (by omega), g1]
    rw [trimOut_bad (by omega)] at HD2
    rw [trimOut_bad (by omega), g1]
    obtain ⟨L2, s2, A2, n2, c2, F2, m2, k2, rfl⟩ := HD2.out.form
    rw [show errV (e0 + 1) = errI ((e0 + 1 : Nat) : Int) from rfl]
    generalize hE : ((e0 + 1 : Nat) : Int) = E at *
    have HE := Lib.hid hE
    obtain ⟨u3, hu3, hb3, _⟩ := var_new w2 HD2.out
    subst hu3
    have HO3 := Lib.hid (HO2.out.on hb3)
    obtain ⟨hr0, hf0⟩ := HO3.out.dcell (g := w.heap.size + 1) (l := zero4) (j := 0) (by simp) rfl
    obtain ⟨hr1, hf1⟩ := HO3.out.dcell (g := w.heap.size + 1) (l := zero4) (j := 1) (by simp) rfl
    obtain ⟨hr2, hf2⟩ := HO3.out.dcell (g := w.heap.size + 1) (l := zero4) (j := 2) (by simp) rfl
    obtain ⟨hr3, hf3⟩ := HO3.out.dcell (g := w.heap.size + 1) (l := zero4) (j := 3) (by simp) rfl
    have HEnd := Lib.hid (res_bad HO3.out rfl)
    clear hE hb3 hb2 HO2 HD2 g1 HO3
    go_wp2
    obtain ⟨k2, k3, k4, k5, k6⟩ := HEnd.out
    refine bodyPost_ret (results_dfa rfl _ rfl k3 k4 k5 k6) rfl (Lib.hid ⟨_, by rw [HNo.out, show errV (e0 + 1) = errI ((e0 + 1 : Nat) : Int) from rfl, HE.out]; rfl, by rw [HNo.out]; exact dfaOwn_zero (HB.out.trans (k2.mono HB.out.size))⟩)
theorem min_gives {W : World} {v : Value} {d : Aut} (h : DfaAt W W.heap.size v d) {E : Value} {r : Aut} {k : Nat} (hr : minOut d = (r, k)) (hE : errV k = E) : Gives 32 #[v] W E r :=
  gives_of (minimal_any v d W h) (by rw [hr]; exact hE) (by rw [hr])
end Go.Proofs.YtbciefeipiphiaaDoor.Mp
