/- The walks of package nfa's Mirror and Of. -/
import Derived.Test.YtnlkkfcjonchgaaDoorNfaO
import Derived.Test.YtnlkkfcjonchgaaDoorRegL
import Derived.Handy
import Derived.Deep.Light
namespace Go.Proofs.YtnlkkfcjonchgaaDoor.Wd
open Go.RowKit Go.IntWalk
/-- Two may come up. -/
theorem wpZ_pair {P : Program} {ops : Array Oper} {Q : Exit → Act → World → Prop} {md : Region.Mode} {S : World → Prop} {z i j : Nat} {oi oj : Oper} {n : Nat} {listed : Array Bool} {a : Act} {w : World} (hi : ops[i]? = some oi) (hj : ops[j]? = some oj) (hr : Region.ready md ops listed = [i, j])
    (h1 : ∀ K : Act → World → Prop, Shut (∀ b u, (i ≠ z → S u) → ((i ≠ z → S u) → wpZ P md ops Q S z n (listed.setIfInBounds i true) b u) → K b u) →
      if Region.wanted oi (yielded ops a.tmps) = true then Oper.wp P oi a w K Q else K (a.put oi.dst undef) w)
    (h2 : ∀ K : Act → World → Prop, Shut (∀ b u, (j ≠ z → S u) → ((j ≠ z → S u) → wpZ P md ops Q S z n (listed.setIfInBounds j true) b u) → K b u) →
      if Region.wanted oj (yielded ops a.tmps) = true then Oper.wp P oj a w K Q else K (a.put oj.dst undef) w) : wpZ P md ops Q S z (n + 1) listed a w :=
  ⟨fun e => (by rw [hr] at e; cases e), fun k hk => by
    rw [hr] at hk
    rcases List.mem_cons.1 hk with rfl | hk
    · exact wpOp_step hi fun K hK => h1 K fun b u hS hW => hK b u ⟨hS, hW hS⟩
    · obtain rfl := List.mem_singleton.1 hk
      exact wpOp_step hj fun K hK => h2 K fun b u hS hW => hK b u ⟨hS, hW hS⟩⟩
end Go.Proofs.YtnlkkfcjonchgaaDoor.Wd
namespace Go.Proofs.YtnlkkfcjonchgaaDoor.Nf
open Go.RowKit Go.IntWalk Go.Proofs.YtnlkkfcjonchgaaDoor.Wd Go.Proofs.YtnlkkfcjonchgaaDoor.Wo Go.Proofs.YtnlkkfcjonchgaaDoor.Df

def mirOut (a : Nfa) : Nfa × Nat := if nchk a = 0 then (mir a, 0) else (zeroN, nchk a)
theorem mirOut_ok {a : Nfa} (h : nchk a = 0) : mirOut a = (mir a, 0) := if_pos h
theorem mirOut_bad {a : Nfa} (h : nchk a ≠ 0) : mirOut a = (zeroN, nchk a) := if_neg h
theorem zeroN_at {w w2 : World} (hb : Below w.heap.size w w2) : NfaAt w2 w2.heap.size (.agg #[.int .i64 0, .int .i64 0, .slice none 0 0, .slice none 0 0, .slice none 0 0]) zeroN ∧ Below w.heap.size w w2 := ⟨nfaAt_zero _ _, hb⟩
set_option linter.unusedSimpArgs false in
set_option maxRecDepth 100000 in
set_option maxHeartbeats 4000000 in
theorem mirror_any (v : Value) (a : Nfa) (w : World) (h : NfaAt w w.heap.size v a) :
    Calls Tryd.prog 36 #[v] w fun e w' => Hid (∃ x, e = .returned (.tuple #[x, errV (mirOut a).2]) ∧ NfaAt w' w'.heap.size x (mirOut a).1) ∧ Below w.heap.size w w' := by
  have HV := h
  obtain ⟨L, n, A, ca, M, cm, F, cf, rfl, h⟩ := h
  obtain ⟨w1, hw1, hB1, hs1, hX1, hd1⟩ := box_nfa w h
  have hres := below_alloc w1 (.cells #[.int .i64 0, .int .i64 0, .slice none 0 0, .slice none 0 0, .slice none 0 0] 56)
  have HB := Lib.hid hB1
  have HW := Lib.hid hw1
  have HBox := Lib.hid (hX1.on hres)
  have HN := Lib.hid ((HV.on hB1).on hres)
  have HI := Lib.hid (hd1.on hres)
  have HI1 := Lib.hid hd1
  have HX1 := Lib.hid hX1
  have HC := Lib.hid (ncheck_any _ a _ HN.out)
  have HO := Lib.hid (own_nfa_new (own_start w1) (.int .i64 0) (.int .i64 0) (.slice none 0 0) (.slice none 0 0) (.slice none 0 0))
  rw [hs1] at HO
  have HE2 : Hid (a.L = L ∧ a.n = n) := ⟨h.eL, h.en⟩
  have hc0 := HBox.out.c0
  have hc1 := HBox.out.c1
  have hc2 := HBox.out.c2
  have hc3 := HBox.out.c3
  have hc4 := HBox.out.c4
  clear h hw1 hB1 hs1 hX1 hd1 HV hres HN
  rcases g1 : nchk a with _ | e0
  · have HG : Hid (Good a) := nchk_iff.1 g1
    rw [g1] at HC
    have HMo := Lib.hid (mirOut_ok g1)
    have hm240 := HG.out.m240
    have HCF0 := Lib.hid (fun W (hA : IntsAt W W.heap.size F a.fin) => clone_all F cf a.fin W hA (by have := HG.out.f40; omega))
    have HCS0 := Lib.hid (fun W (hA : IntsAt W W.heap.size A a.st) => clone_all A ca a.st W hA (by have := HG.out.s40; omega))
    clear g1
    generalize hkm : a.mv.length = km at *
    have HKm := Lib.hid hkm
    clear hkm
    generalize a.st.length = ks at *
    generalize a.fin.length = kf at *
    go_enter Tryd.func36, Tryd.ntmps36
    go_wp2_with fail
    rw [← HW.out]
    clear HW
    refine HC.out.mono ?_
    rintro e w2 ⟨he, hb⟩
    obtain rfl : e = .returned .nilIface := he.out
    have HBox := Lib.hid (HBox.out.on hb)
    have HI := Lib.hid (HI.out.on hb)
    have HO2 := Lib.hid (HO.out.on hb)
    clear hb HC he hc0 hc1 hc2 hc3 hc4 HO
    have HCF := Lib.hid (fun W (hW : Below w2.heap.size w2 W) => HCF0.out W (HI.out.on hW).fin)
    have HCS := Lib.hid (fun W (hW : Below w2.heap.size w2 W) => HCS0.out W (HI.out.on hW).st)
    have HK : Hid (∀ W, Below w2.heap.size w2 W → W.cell? ⟨w.heap.size, 0, none⟩ = some (.int .i64 L) ∧ W.cell? ⟨w.heap.size, 1, none⟩ = some (.int .i64 n) ∧ W.cell? ⟨w.heap.size, 2, none⟩ = some (.slice A ks ca) ∧ W.cell? ⟨w.heap.size, 3, none⟩ = some (.slice M km cm) ∧ W.cell? ⟨w.heap.size, 4, none⟩ = some (.slice F kf cf)) := fun W hW => box_agg (HBox.out.on hW)
    obtain ⟨gr, hgr⟩ : ∃ gr, gr = w.heap.size + 1 := ⟨_, rfl⟩
    rw [← hgr] at HO2
    rw [← hgr]
    clear hgr HCF0 HCS0
    go_wp2_with fail
    -- the struct is made beside what was owned: its own base is the world ahead of it
    have HO3 : Hid (Own w2 w2.drew [] []) := (own_start w2).on (Below.refl _ _).drew
    go_cut [5] (fun pv wc => Hid (∃ gm sv fv, pv = .pointer (some ⟨gm, 0, none⟩) ∧ Own w2 wc [eNfa gm [.int .i64 L, .int .i64 n, fv, .slice none 0 0, sv]] [eInts fv a.fin, eInts sv a.st]))
    case first =>
      refine wp_region_Z (fun W => W.cell? ⟨w.heap.size, 0, none⟩ = some (.int .i64 L) ∧ W.cell? ⟨w.heap.size, 1, none⟩ = some (.int .i64 n) ∧ W.cell? ⟨w.heap.size, 2, none⟩ = some (.slice A ks ca) ∧ W.cell? ⟨w.heap.size, 3, none⟩ = some (.slice M km cm) ∧ W.cell? ⟨w.heap.size, 4, none⟩ = some (.slice F kf cf)) 12 (by kernel_rfl) (HK.out _ (Below.refl _ _).drew) (fun hHeld => ?_)
      refine wpZ_take (i := 0) (v := ?_) rfl (by kernel_rfl) (by kernel_rfl) (by kernel_rfl) (by kernel_rfl) (fun _ _ _ h => h) (Or.inl ⟨by rfl, ?_⟩) hHeld ?_
      rotate_left
      · (go_light; intro w9 hSw; (try dsimp only at hSw); go_simp; try with_reducible rfl)
      try simp only [Act.put, List.setIfInBounds_toArray, List.set_cons_zero, List.set_cons_succ]
      refine wpZ_take (i := 1) (v := ?_) rfl (by kernel_rfl) (by kernel_rfl) (by kernel_rfl) (by kernel_rfl) (fun _ _ _ h => h) (Or.inl ⟨by rfl, ?_⟩) hHeld ?_
      rotate_left
      · (go_light; intro w9 hSw; (try dsimp only at hSw); go_simp; try with_reducible rfl)
      try simp only [Act.put, List.setIfInBounds_toArray, List.set_cons_zero, List.set_cons_succ]
      refine wpZ_take (i := 2) (v := ?_) rfl (by kernel_rfl) (by kernel_rfl) (by kernel_rfl) (by kernel_rfl) (fun _ _ _ h => h) (Or.inl ⟨by rfl, ?_⟩) hHeld ?_
      rotate_left
      · (go_light; intro w9 hSw; (try dsimp only at hSw); go_simp; try with_reducible rfl)
      try simp only [Act.put, List.setIfInBounds_toArray, List.set_cons_zero, List.set_cons_succ]
      refine wpZ_take (i := 3) (v := ?_) rfl (by kernel_rfl) (by kernel_rfl) (by kernel_rfl) (by kernel_rfl) (fun _ _ _ h => h) (Or.inl ⟨by rfl, ?_⟩) hHeld ?_
      rotate_left
      · (go_light; intro w9 hSw; (try dsimp only at hSw); go_simp; try with_reducible rfl)
      try simp only [Act.put, List.setIfInBounds_toArray, List.set_cons_zero, List.set_cons_succ]
      refine wpZ_take (i := 4) (v := ?_) rfl (by kernel_rfl) (by kernel_rfl) (by kernel_rfl) (by kernel_rfl) (fun _ _ _ h => h) (Or.inl ⟨by rfl, ?_⟩) hHeld ?_
      rotate_left
      · (go_light; intro w9 hSw; (try dsimp only at hSw); go_simp; try with_reducible rfl)
      try simp only [Act.put, List.setIfInBounds_toArray, List.set_cons_zero, List.set_cons_succ]
      refine wpZ_take (i := 5) (v := ?_) rfl (by kernel_rfl) (by kernel_rfl) (by kernel_rfl) (by kernel_rfl) (fun _ _ _ h => h) (Or.inl ⟨by rfl, ?_⟩) hHeld ?_
      rotate_left
      · (go_light; intro w9 hSw; (try dsimp only at hSw); go_simp; try with_reducible rfl)
      try simp only [Act.put, List.setIfInBounds_toArray, List.set_cons_zero, List.set_cons_succ]
      refine wpZ_take (i := 7) (v := ?_) rfl (by kernel_rfl) (by kernel_rfl) (by kernel_rfl) (by kernel_rfl) (fun _ _ _ h => h) (Or.inl ⟨by rfl, ?_⟩) hHeld ?_
      rotate_left
      · (go_light; intro w9 hSw; (try dsimp only at hSw); go_simp; try with_reducible rfl)
      try simp only [Act.put, List.setIfInBounds_toArray, List.set_cons_zero, List.set_cons_succ]
      refine wpZ_take (i := 8) (v := ?_) rfl (by kernel_rfl) (by kernel_rfl) (by kernel_rfl) (by kernel_rfl) (fun _ _ _ h => h) (Or.inl ⟨by rfl, ?_⟩) hHeld ?_
      rotate_left
      · (go_light; intro w9 hSw; (try dsimp only at hSw); go_simp; try with_reducible rfl)
      try simp only [Act.put, List.setIfInBounds_toArray, List.set_cons_zero, List.set_cons_succ]
      refine wpZ_pair (i := 6) (j := 11) rfl rfl (by kernel_rfl) (fun K hK => ?_) (fun K hK => ?_)
      · go_simp
        refine (HCF.out _ (HO3.out.below)).mono ?_
        rintro e w6 he
        obtain ⟨fv, h6, ho6⟩ := he.out
        subst h6
        obtain ⟨A6, k6, h7, _⟩ := ho6.form (e := eInts fv a.fin) (by simp)
        simp only [eInts] at h7
        subst h7
        have HO6 := Lib.hid (HO3.out.join ho6.fin)
        clear he ho6
        try simp only []
        refine hK.out _ _ (fun _ => HK.out _ (HO6.out.below)) (fun hHeld9 => ?_)
        replace hHeld := hHeld9 (by decide)
        clear hHeld9
        clear hK K
        try simp only [Act.put, List.setIfInBounds_toArray, List.set_cons_zero, List.set_cons_succ]
        refine wpZ_pair (i := 9) (j := 11) rfl rfl (by kernel_rfl) (fun K hK => ?_) (fun K hK => ?_)
        · go_simp
          refine (HCS.out _ (HO6.out.below)).mono ?_
          rintro e w9 he
          obtain ⟨sv, h9, ho9⟩ := he.out
          subst h9
          obtain ⟨A9, k9, h7, _⟩ := ho9.form (e := eInts sv a.st) (by simp)
          simp only [eInts] at h7
          subst h7
          have HO9 := Lib.hid (HO6.out.join ho9.fin)
          clear he ho9
          try simp only []
          refine hK.out _ _ (fun _ => HK.out _ (HO9.out.below)) (fun hHeld9 => ?_)
          replace hHeld := hHeld9 (by decide)
          clear hHeld9
          clear hK K
          try simp only [Act.put, List.setIfInBounds_toArray, List.set_cons_zero, List.set_cons_succ]
          refine wpZ_take (i := 10) (v := ?_) rfl (by kernel_rfl) (by kernel_rfl) (by kernel_rfl) (by kernel_rfl) (fun _ _ _ h => h) (Or.inl ⟨by rfl, ?_⟩) hHeld ?_
          rotate_left
          · (go_light; intro w9 hSw; (try dsimp only at hSw); go_simp; try with_reducible rfl)
          try simp only [Act.put, List.setIfInBounds_toArray, List.set_cons_zero, List.set_cons_succ]
          refine wpZ_one (i := 11) rfl (by kernel_rfl) (fun K hK => ?_)
          go_simp
          have HO11 := Lib.hid (own_nfa_new HO9.out (.int .i64 0) (.int .i64 0) (.slice none 0 0) (.slice none 0 0) (.slice none 0 0))
          refine hK.out _ _ (fun _ => HK.out _ (HO11.out.below)) (fun hHeld9 => ?_)
          replace hHeld := hHeld9 (by decide)
          clear hHeld9
          clear hK K
          try simp only [Act.put, List.setIfInBounds_toArray, List.set_cons_zero, List.set_cons_succ]
          refine wpZ_one (i := 12) rfl (by kernel_rfl) (fun K hK => ?_)
          obtain ⟨hr0, hf0⟩ := ncell HO11.out (g := w9.heap.size) (l := zero5) (j := 0) (by simp) rfl
          obtain ⟨hr1, hf1⟩ := ncell HO11.out (g := w9.heap.size) (l := zero5) (j := 1) (by simp) rfl
          obtain ⟨hr2, hf2⟩ := ncell HO11.out (g := w9.heap.size) (l := zero5) (j := 2) (by simp) rfl
          obtain ⟨hr3, hf3⟩ := ncell HO11.out (g := w9.heap.size) (l := zero5) (j := 3) (by simp) rfl
          obtain ⟨hr4, hf4⟩ := ncell HO11.out (g := w9.heap.size) (l := zero5) (j := 4) (by simp) rfl
          go_simp
          refine hK.out _ _ (fun k => absurd rfl k) (fun _ => ?_)
          clear hK K
          try simp only [Act.put, List.setIfInBounds_toArray, List.set_cons_zero, List.set_cons_succ]
          refine wpZ_done (by kernel_rfl) ?_ _
          have hend := own_nfa_new HO9.out (.int .i64 L) (.int .i64 n) (.slice A6 a.fin.length k6) (.slice none 0 0) (.slice A9 a.st.length k9)
          have HEnd := Lib.hid hend
          clear hend hHeld
          go_wp2_with fail
          go_meet
          exact ⟨_, _, _, rfl, HEnd.out.weak (fun e he => by simp only [List.mem_cons, List.mem_append, List.not_mem_nil, or_false] at he ⊢; rcases he with rfl | rfl <;> simp)⟩
        · go_simp
          have HO11 := Lib.hid (own_nfa_new HO6.out (.int .i64 0) (.int .i64 0) (.slice none 0 0) (.slice none 0 0) (.slice none 0 0))
          refine hK.out _ _ (fun _ => HK.out _ (HO11.out.below)) (fun hHeld9 => ?_)
          replace hHeld := hHeld9 (by decide)
          clear hHeld9
          clear hK K
          try simp only [Act.put, List.setIfInBounds_toArray, List.set_cons_zero, List.set_cons_succ]
          refine wpZ_one (i := 9) rfl (by kernel_rfl) (fun K hK => ?_)
          go_simp
          refine (HCS.out _ (HO11.out.below)).mono ?_
          rintro e w9 he
          obtain ⟨sv, h9, ho9⟩ := he.out
          subst h9
          obtain ⟨A9, k9, h7, _⟩ := ho9.form (e := eInts sv a.st) (by simp)
          simp only [eInts] at h7
          subst h7
          have HO9 := Lib.hid (HO11.out.join ho9.fin)
          clear he ho9
          try simp only []
          refine hK.out _ _ (fun _ => HK.out _ (HO9.out.below)) (fun hHeld9 => ?_)
          replace hHeld := hHeld9 (by decide)
          clear hHeld9
          clear hK K
          try simp only [Act.put, List.setIfInBounds_toArray, List.set_cons_zero, List.set_cons_succ]
          refine wpZ_take (i := 10) (v := ?_) rfl (by kernel_rfl) (by kernel_rfl) (by kernel_rfl) (by kernel_rfl) (fun _ _ _ h => h) (Or.inl ⟨by rfl, ?_⟩) hHeld ?_
          rotate_left
          · (go_light; intro w9 hSw; (try dsimp only at hSw); go_simp; try with_reducible rfl)
          try simp only [Act.put, List.setIfInBounds_toArray, List.set_cons_zero, List.set_cons_succ]
          refine wpZ_one (i := 12) rfl (by kernel_rfl) (fun K hK => ?_)
          obtain ⟨hr0, hf0⟩ := ncell HO9.out (g := w6.heap.size) (l := zero5) (j := 0) (by simp) rfl
          obtain ⟨hr1, hf1⟩ := ncell HO9.out (g := w6.heap.size) (l := zero5) (j := 1) (by simp) rfl
          obtain ⟨hr2, hf2⟩ := ncell HO9.out (g := w6.heap.size) (l := zero5) (j := 2) (by simp) rfl
          obtain ⟨hr3, hf3⟩ := ncell HO9.out (g := w6.heap.size) (l := zero5) (j := 3) (by simp) rfl
          obtain ⟨hr4, hf4⟩ := ncell HO9.out (g := w6.heap.size) (l := zero5) (j := 4) (by simp) rfl
          go_simp
          refine hK.out _ _ (fun k => absurd rfl k) (fun _ => ?_)
          clear hK K
          try simp only [Act.put, List.setIfInBounds_toArray, List.set_cons_zero, List.set_cons_succ]
          refine wpZ_done (by kernel_rfl) ?_ _
          have hend := (into5 (l := zero5) HO9.out rfl (.int .i64 L) (.int .i64 n) (.slice A6 a.fin.length k6) (.slice none 0 0) (.slice A9 a.st.length k9) rfl).1
          have HEnd := Lib.hid hend
          clear hend hHeld
          go_wp2_with fail
          go_meet
          exact ⟨_, _, _, rfl, HEnd.out.weak (fun e he => by simp only [List.mem_cons, List.mem_append, List.not_mem_nil, or_false] at he ⊢; rcases he with rfl | rfl <;> simp)⟩
      · go_simp
        have HO11 := Lib.hid (own_nfa_new HO3.out (.int .i64 0) (.int .i64 0) (.slice none 0 0) (.slice none 0 0) (.slice none 0 0))
        refine hK.out _ _ (fun _ => HK.out _ (HO11.out.below)) (fun hHeld9 => ?_)
        replace hHeld := hHeld9 (by decide)
        clear hHeld9
        clear hK K
        try simp only [Act.put, List.setIfInBounds_toArray, List.set_cons_zero, List.set_cons_succ]
        refine wpZ_one (i := 6) rfl (by kernel_rfl) (fun K hK => ?_)
        go_simp
        refine (HCF.out _ (HO11.out.below)).mono ?_
        rintro e w6 he
        obtain ⟨fv, h6, ho6⟩ := he.out
        subst h6
        obtain ⟨A6, k6, h7, _⟩ := ho6.form (e := eInts fv a.fin) (by simp)
        simp only [eInts] at h7
        subst h7
        have HO6 := Lib.hid (HO11.out.join ho6.fin)
        clear he ho6
        try simp only []
        refine hK.out _ _ (fun _ => HK.out _ (HO6.out.below)) (fun hHeld9 => ?_)
        replace hHeld := hHeld9 (by decide)
        clear hHeld9
        clear hK K
        try simp only [Act.put, List.setIfInBounds_toArray, List.set_cons_zero, List.set_cons_succ]
        refine wpZ_one (i := 9) rfl (by kernel_rfl) (fun K hK => ?_)
        go_simp
        refine (HCS.out _ (HO6.out.below)).mono ?_
        rintro e w9 he
        obtain ⟨sv, h9, ho9⟩ := he.out
        subst h9
        obtain ⟨A9, k9, h7, _⟩ := ho9.form (e := eInts sv a.st) (by simp)
        simp only [eInts] at h7
        subst h7
        have HO9 := Lib.hid (HO6.out.join ho9.fin)
        clear he ho9
        try simp only []
        refine hK.out _ _ (fun _ => HK.out _ (HO9.out.below)) (fun hHeld9 => ?_)
        replace hHeld := hHeld9 (by decide)
        clear hHeld9
        clear hK K
        try simp only [Act.put, List.setIfInBounds_toArray, List.set_cons_zero, List.set_cons_succ]
        refine wpZ_take (i := 10) (v := ?_) rfl (by kernel_rfl) (by kernel_rfl) (by kernel_rfl) (by kernel_rfl) (fun _ _ _ h => h) (Or.inl ⟨by rfl, ?_⟩) hHeld ?_
        rotate_left
        · (go_light; intro w9 hSw; (try dsimp only at hSw); go_simp; try with_reducible rfl)
        try simp only [Act.put, List.setIfInBounds_toArray, List.set_cons_zero, List.set_cons_succ]
        refine wpZ_one (i := 12) rfl (by kernel_rfl) (fun K hK => ?_)
        obtain ⟨hr0, hf0⟩ := ncell HO9.out (g := w2.heap.size) (l := zero5) (j := 0) (by simp) rfl
        obtain ⟨hr1, hf1⟩ := ncell HO9.out (g := w2.heap.size) (l := zero5) (j := 1) (by simp) rfl
        obtain ⟨hr2, hf2⟩ := ncell HO9.out (g := w2.heap.size) (l := zero5) (j := 2) (by simp) rfl
        obtain ⟨hr3, hf3⟩ := ncell HO9.out (g := w2.heap.size) (l := zero5) (j := 3) (by simp) rfl
        obtain ⟨hr4, hf4⟩ := ncell HO9.out (g := w2.heap.size) (l := zero5) (j := 4) (by simp) rfl
        go_simp
        refine hK.out _ _ (fun k => absurd rfl k) (fun _ => ?_)
        clear hK K
        try simp only [Act.put, List.setIfInBounds_toArray, List.set_cons_zero, List.set_cons_succ]
        refine wpZ_done (by kernel_rfl) ?_ _
        have hend := (into5 (l := zero5) HO9.out rfl (.int .i64 L) (.int .i64 n) (.slice A6 a.fin.length k6) (.slice none 0 0) (.slice A9 a.st.length k9) rfl).1
        have HEnd := Lib.hid hend
        clear hend hHeld
        go_wp2_with fail
        go_meet
        exact ⟨_, _, _, rfl, HEnd.out.weak (fun e he => by simp only [List.mem_cons, List.mem_append, List.not_mem_nil, or_false] at he ⊢; rcases he with rfl | rfl <;> simp)⟩
    case rest =>
      obtain ⟨gm, sv, fv, hpv, hown⟩ := hcut.out
      subst hpv
      obtain ⟨A6, k6, h7, _⟩ := hown.form (e := eInts fv a.fin) (by simp)
      simp only [eInts] at h7
      subst h7
      obtain ⟨A9, k9, h7, _⟩ := hown.form (e := eInts sv a.st) (by simp)
      simp only [eInts] at h7
      subst h7
      have HM0 : Hid (Own w1 wc [eMoves (.slice none 0 0) ((a.mv.take 0).map turn), eNfa gm [.int .i64 L, .int .i64 n, .slice A6 a.fin.length k6, .slice none 0 0, .slice A9 a.st.length k9], eNfa gr zero5] [eInts (.slice A6 a.fin.length k6) a.fin, eInts (.slice A9 a.st.length k9) a.st]) :=
        (HO2.out.join hown).nil 86 3
      have hbm := HM0.out.below
      have hc3 := (HX1.out.on hbm).c3
      clear hcut hown hbm HO2 HBox HI HCF HCS HK HO3
      generalize a.fin.length = kf' at *
      generalize a.st.length = ks' at *
      go_wp2
      clear hc3
      go_loopw [28] (fun i wr => ∃ (k : Nat), k ≤ km ∧ i = .int .i64 k ∧ Hid (∃ mvv, Own w1 wr [eMoves mvv ((a.mv.take k).map turn), eNfa gm [.int .i64 L, .int .i64 n, .slice A6 kf' k6, mvv, .slice A9 ks' k9], eNfa gr zero5] [eInts (.slice A6 kf' k6) a.fin, eInts (.slice A9 ks' k9) a.st])) (fun i _ => km - (intOf i).toNat)
      case atStart => exact ⟨0, by omega, rfl, _, HM0.out⟩
      case round =>
        clear HM0
        obtain ⟨k, hk, rfl, HMx⟩ := hrel
        obtain ⟨mvv, hmo⟩ := HMx.out
        by_cases hlt : k < km
        · as_aux_lemma =>
          have hlt' : k < a.mv.length := by rw [HKm.out]; exact hlt
          obtain ⟨ad, e, hadb, m0, m1, m2⟩ := (HI1.out.on hmo.below).mv.at_ (List.getElem?_eq_getElem hlt')
          subst e
          obtain ⟨⟨x, y, z⟩, hq⟩ : ∃ q, q = a.mv[k] := ⟨_, rfl⟩
          have HNx : Hid ((a.mv.take (k + 1)).map turn = (a.mv.take k).map turn ++ [(z, y, x)]) := by
            rw [Hid, ← List.take_append_getElem hlt', List.map_append, ← hq]; rfl
          have hlen : ((a.mv.take k).map turn).length < 1099511627776 := by rw [List.length_map, List.length_take]; omega
          rw [← hq] at m0 m1 m2
          simp only at m0 m1 m2
          have HMa := Lib.hid (hmo.alloc (.cells #[.int .i64 x, .int .i64 y, .int .i64 z] 86))
          have HSa : Hid ((wr.alloc (.cells #[.int .i64 x, .int .i64 y, .int .i64 z] 86)).heap.size = wr.heap.size + 1) := by simp [Hid]
          obtain ⟨hg3, hg3f⟩ := ncell hmo (g := gm) (l := [.int .i64 L, .int .i64 n, .slice A6 kf' k6, mvv, .slice A9 ks' k9]) (j := 3) (by simp) rfl
          obtain ⟨hl1, hl2⟩ := hmo.lt (ad := ⟨gm, 0, none⟩) (t := 56) (sz := 5) (n := 1) (cap := 1) (xs := [.int .i64 L, .int .i64 n, .slice A6 kf' k6, mvv, .slice A9 ks' k9]) (by simp [eNfa])
          simp only at hl1 hl2
          clear hq hlt' hmo HMx
          generalize (a.mv.take k).map turn = ms at *
          go_wp2_with (at_builtin; refine own_move (m := (z, y, x)) (by rfl) _ _ (by rfl) (by rfl) HMa.out (by rw [HSa.out]; rfl) hlen ?_)
          intro g8 cap8 w8 ho8
          obtain ⟨hk8, hf8⟩ := ncell ho8 (g := gm) (l := [.int .i64 L, .int .i64 n, .slice A6 kf' k6, mvv, .slice A9 ks' k9]) (j := 3) (by simp) rfl
          have HN1 : Hid (∃ mv', Own w1 (w8.setCell ⟨gm, 3, none⟩ (.slice (some ⟨g8, 0, none⟩) (ms.length + 1) cap8)) [eMoves mv' ((a.mv.take (k + 1)).map turn), eNfa gm [.int .i64 L, .int .i64 n, .slice A6 kf' k6, mv', .slice A9 ks' k9], eNfa gr zero5] [eInts (.slice A6 kf' k6) a.fin, eInts (.slice A9 ks' k9) a.st]) := by
            refine ⟨.slice (some ⟨g8, 0, none⟩) (ms.length + 1) cap8, ?_⟩
            rw [HNx.out]
            exact (nset ho8.two 3 (.slice (some ⟨g8, 0, none⟩) (ms.length + 1) cap8)).two
          clear ho8 HMa hg3 hg3f m0 m1 m2
          go_wp2
          go_roundw
          case rel => exact ⟨k + 1, by omega, by go_num, HN1⟩
          case measure => simp [intOf]; omega
        · as_aux_lemma =>
          have htk : a.mv.take k = a.mv := List.take_of_length_le (by rw [HKm.out]; omega)
          rw [htk] at hmo
          obtain ⟨M8, k8, h7, _⟩ := hmo.form (e := eMoves mvv (a.mv.map turn)) (by simp)
          simp only [eMoves] at h7
          subst h7
          have hG : ∀ j u, ([.int .i64 L, .int .i64 n, .slice A6 kf' k6, .slice M8 (a.mv.map turn).length k8, .slice A9 ks' k9] : List Value)[j]? = some u → wr.cell? ⟨gm, j, none⟩ = some u := fun j u hj => (ncell hmo (g := gm) (by simp) hj).1
          have hg0 := hG 0 _ rfl
          have hg1 := hG 1 _ rfl
          have hg2 := hG 2 _ rfl
          have hg3 := hG 3 _ rfl
          have hg4 := hG 4 _ rfl
          obtain ⟨hr0, hf0⟩ := ncell hmo (g := gr) (l := zero5) (j := 0) (by simp) rfl
          obtain ⟨hr1, hf1⟩ := ncell hmo (g := gr) (l := zero5) (j := 1) (by simp) rfl
          obtain ⟨hr2, hf2⟩ := ncell hmo (g := gr) (l := zero5) (j := 2) (by simp) rfl
          obtain ⟨hr3, hf3⟩ := ncell hmo (g := gr) (l := zero5) (j := 3) (by simp) rfl
          obtain ⟨hr4, hf4⟩ := ncell hmo (g := gr) (l := zero5) (j := 4) (by simp) rfl
          obtain ⟨hend, k0, k1, k2, k3, k4⟩ := into5 (hmo.pull 2 (by simp)) rfl (.int .i64 L) (.int .i64 n) (.slice A6 kf' k6) (.slice M8 (a.mv.map turn).length k8) (.slice A9 ks' k9) rfl
          have HEnd := Lib.hid hend
          have HK5 := Lib.hid (And.intro k0 (And.intro k1 (And.intro k2 (And.intro k3 k4))))
          clear hG hmo HMx hend k0 k1 k2 k3 k4
          generalize (a.mv.map turn).length = mm at *
          go_wp2
          obtain ⟨k0, k1, k2, k3, k4⟩ := HK5.out
          have hgood := mir_good HG.out
          have hrd := own_reads (a := mir a) (sv := .slice A6 kf' k6) (mv := .slice M8 mm k8) (fv := .slice A9 ks' k9) HEnd.out (by simp [mir]) (by simp [mir]) (by simp [mir]) (good_nL hgood).1 (good_nL hgood).2 (good_st hgood) (good_mvsmall hgood) (good_fin hgood)
          have hv : (Value.agg #[.int .i64 (mir a).L, .int .i64 (mir a).n, .slice A6 kf' k6, .slice M8 mm k8, .slice A9 ks' k9]) = .agg #[.int .i64 L, .int .i64 n, .slice A6 kf' k6, .slice M8 mm k8, .slice A9 ks' k9] := by
            rw [← HE2.out.1, ← HE2.out.2]; rfl
          rw [hv] at hrd
          refine bodyPost_ret (results_nfa rfl _ rfl k0 k1 k2 k3 k4) rfl ⟨⟨_, by rw [HMo.out]; rfl, by rw [HMo.out]; exact hrd⟩, HB.out.trans (HEnd.out.below.mono HB.out.size)⟩
  · have HNo := Lib.hid (mirOut_bad (a := a) (by omega))
    rw [g1] at HC HNo
    clear g1 HBox HI HI1 HX1 HE2
    generalize a.st.length = ks at *
    generalize a.mv.length = km at *
    generalize a.fin.length = kf at *
    rw [show errV (e0 + 1) = errI ((e0 + 1 : Nat) : Int) from rfl] at HC
    generalize hE : ((e0 + 1 : Nat) : Int) = E at *
    have HE := Lib.hid hE
    clear hE
    go_enter Tryd.func36, Tryd.ntmps36
    go_wp2_with fail
    rw [← HW.out]
    clear HW
    refine HC.out.mono ?_
    rintro e w2 ⟨he, hb⟩
    obtain rfl : e = .returned (errI E) := he.out
    have HO2 := Lib.hid (HO.out.on hb)
    obtain ⟨hr0, hf0⟩ := ncell HO2.out (g := w.heap.size + 1) (l := zero5) (j := 0) (by simp) rfl
    obtain ⟨hr1, hf1⟩ := ncell HO2.out (g := w.heap.size + 1) (l := zero5) (j := 1) (by simp) rfl
    obtain ⟨hr2, hf2⟩ := ncell HO2.out (g := w.heap.size + 1) (l := zero5) (j := 2) (by simp) rfl
    obtain ⟨hr3, hf3⟩ := ncell HO2.out (g := w.heap.size + 1) (l := zero5) (j := 3) (by simp) rfl
    obtain ⟨hr4, hf4⟩ := ncell HO2.out (g := w.heap.size + 1) (l := zero5) (j := 4) (by simp) rfl
    obtain ⟨hend, k0, k1, k2, k3, k4⟩ := into5 HO2.out rfl (.int .i64 0) (.int .i64 0) (.slice none 0 0) (.slice none 0 0) (.slice none 0 0) rfl
    have HEnd := Lib.hid (HB.out.trans (hend.below.mono HB.out.size))
    have HK5 := Lib.hid (And.intro k0 (And.intro k1 (And.intro k2 (And.intro k3 k4))))
    clear hb HC hc0 hc1 hc2 hc3 hc4 he hend k0 k1 k2 k3 k4
    go_wp2
    obtain ⟨k0, k1, k2, k3, k4⟩ := HK5.out
    refine bodyPost_ret (results_nfa rfl _ rfl k0 k1 k2 k3 k4) rfl ⟨⟨_, by rw [HNo.out, errV_succ, HE.out]; rfl, by rw [HNo.out]; exact nfaAt_zero _ _⟩, HEnd.out⟩
end Go.Proofs.YtnlkkfcjonchgaaDoor.Nf
