/- The walk of package nfa's Make. -/
import Derived.Test.YtloihkoamccacaaGreatDoorNfaS
import Derived.Test.YtloihkoamccacaaGreatDoorExplS
import Derived.Test.YtloihkoamccacaaGreatDoorExpl
namespace Go.Proofs.YtloihkoamccacaaGreatDoor.Nf
open Go.RowKit Go.IntWalk Go.Proofs.YtloihkoamccacaaGreatDoor.Wd Go.Proofs.YtloihkoamccacaaGreatDoor.Wo Go.Proofs.YtloihkoamccacaaGreatDoor.Df

theorem rch64 {a : Nfa} (g : Good a) {x : Nat} (h : Rch (T64 a) (enc (beg a)) x) : ∃ X, Rch (T a) (beg a) X ∧ x = enc X := by
  induction h with
  | base => exact ⟨_, .base, rfl⟩
  | next _ ht ih =>
    obtain ⟨X, hX, rfl⟩ := ih
    unfold T64 at ht
    rw [dec_enc (rch_canon g hX)] at ht
    obtain ⟨Y, hY, rfl⟩ := List.mem_map.1 ht
    exact ⟨Y, .next hX hY, rfl⟩
theorem T64_at {a : Nfa} (g : Good a) {X : List Nat} (hX : Rch (T a) (beg a) X) {c t : Nat} (h : (T64 a (enc X))[c]? = some t) : t = enc (goN a X (c : Int)) := by
  unfold T64 at h
  rw [dec_enc (rch_canon g hX)] at h
  unfold T at h
  have hc : c < a.L.toNat := by have := (List.getElem?_eq_some_iff.1 h).1; simpa using this
  rw [List.getElem?_map, List.getElem?_map, List.getElem?_range hc] at h
  exact (Option.some.inj h).symm
theorem T64_len (a : Nfa) (x : Nat) : (T64 a x).length = a.L.toNat := by simp [T64, T]
theorem cell4 {w : World} {g gr : Nat} (h : g ≠ gr) (j : Nat) (a b c d : Value) : ((((w.setCell ⟨gr, 0, none⟩ a).setCell ⟨gr, 1, none⟩ b).setCell ⟨gr, 2, none⟩ c).setCell ⟨gr, 3, none⟩ d).cell? ⟨g, j, none⟩ = w.cell? ⟨g, j, none⟩ := by
  have hh : ((((w.setCell ⟨gr, 0, none⟩ a).setCell ⟨gr, 1, none⟩ b).setCell ⟨gr, 2, none⟩ c).setCell ⟨gr, 3, none⟩ d).heap[g]? = w.heap[g]? := by
    rw [heap_setCell_other _ _ g _ h, heap_setCell_other _ _ g _ h, heap_setCell_other _ _ g _ h, heap_setCell_other _ _ g _ h]
  unfold World.cell?
  simp only [hh]
theorem make1_call (args : Array Value) (W : World) : (callFunc 40 args).run Tryz.prog W = .ok (.enter 40 args) W := by
  have hn : ¬ Tryz.f40.name = "runtime.NumGoroutine" := of_decide_eq_false (by kernel_rfl)
  have hb : ¬ Tryz.f40.body = none := fun h => by
    have : Tryz.f40.body.isSome = true := by kernel_rfl
    rw [h] at this; cases this
  simp [callFunc, go_sem, hn, hb]
theorem make2_call (args : Array Value) (W : World) : (callFunc 44 args).run Tryz.prog W = .ok (.enter 44 args) W := by
  have hn : ¬ Tryz.f44.name = "runtime.NumGoroutine" := of_decide_eq_false (by kernel_rfl)
  have hb : ¬ Tryz.f44.body = none := fun h => by
    have : Tryz.f44.body.isSome = true := by kernel_rfl
    rw [h] at this; cases this
  simp [callFunc, go_sem, hn, hb]
set_option maxRecDepth 100000 in
set_option maxHeartbeats 1000000 in
theorem make1_any {w : World} {g : Nat} {L n : Int} {A M F : Option Addr} {k c km cm kf cf : Nat} {a : Nfa} (hb : BoxN w g L n A k c M km cm F kf cf) (hn : NfaAt w w.heap.size (.agg #[.int .i64 L, .int .i64 n, .slice A k c, .slice M km cm, .slice F kf cf]) a) (hg : Good a)
    (X : List Nat) (hX : ∀ t ∈ X, t < 40) (q : Int) :
    Calls Tryz.prog 40 #[.int .u64 ((enc X : Nat) : Int), .int .i64 q, .pointer (some ⟨g, 0, none⟩)] w fun e w' => e = .returned (.int .u64 ((enc (goN a X q) : Nat) : Int)) ∧ Below w.heap.size w w' := by
  have HI := Lib.hid (next_any _ a X q w hn hg hX)
  have hc0 := hb.c0
  have hc1 := hb.c1
  have hc2 := hb.c2
  have hc3 := hb.c3
  have hc4 := hb.c4
  clear hb hn hg hX
  generalize enc (goN a X q) = r at *
  generalize enc X = x at *
  go_enter Tryz.func40, Tryz.ntmps40
  go_wp2_with fail
  refine HI.out.mono ?_
  rintro e w2 ⟨rfl, hb⟩
  have HB := Lib.hid hb
  clear hb
  go_wp2
  go_ret
  exact ⟨rfl, HB.out⟩
set_option maxRecDepth 100000 in
set_option maxHeartbeats 1000000 in
theorem make2_any {w : World} {g : Nat} {f : Nat} (hf : w.cell? ⟨g, 0, none⟩ = some (.int .u64 ((f : Nat) : Int))) (hf4 : f < 1099511627776) (x : Nat) (hx : x < 1099511627776) :
    Calls Tryz.prog 44 #[.int .u64 ((x : Nat) : Int), .pointer (some ⟨g, 0, none⟩)] w fun e w' => e = .returned (.bool (decide (x &&& f ≠ 0))) ∧ Below w.heap.size w w' := by
  have hand := bits_and_u64_nat x f (by omega) (by omega)
  by_cases h0 : x &&& f = 0
  · have HR : Hid (decide (x &&& f ≠ 0) = false) := decide_eq_false (fun q => q h0)
    rw [h0] at hand
    clear h0
    go_enter Tryz.func44, Tryz.ntmps44
    go_wp2
    go_ret
    exact ⟨by rw [HR.out]; rfl, Below.refl _ _⟩
  · have HR : Hid (decide (x &&& f ≠ 0) = true) := decide_eq_true h0
    have e1 := int_ne' (show ¬ ((x &&& f : Nat) : Int) = 0 by omega)
    clear h0
    go_enter Tryz.func44, Tryz.ntmps44
    go_wp2
    go_ret
    exact ⟨by rw [HR.out]; rfl, Below.refl _ _⟩
theorem makeOut_bad {a : Nfa} (h : nchk a ≠ 0) : makeOut a = (zeroA, nchk a) := by unfold makeOut; rw [if_neg h]
theorem makeOut_ok {a : Nfa} (h : nchk a = 0) : makeOut a = explOut a.L (T a) (beg a) (finN a) := by unfold makeOut; rw [if_pos h]
set_option linter.unusedSimpArgs false in
set_option maxRecDepth 100000 in
set_option maxHeartbeats 4000000 in
theorem make_any (v : Value) (a : Nfa) (w : World) (h : NfaAt w w.heap.size v a) :
    Calls Tryz.prog 14 #[v] w fun e w' => Hid (∃ x, e = .returned (.tuple #[x, errV (makeOut a).2]) ∧ DfaOwn w w' x (makeOut a).1) := by
  have HV := h
  obtain ⟨L, n, A, ca, M, cm, F, cf, rfl, h⟩ := h
  obtain ⟨w1, hw1, hB1, hs1, hX1, hd1⟩ := box_nfa w h
  have hres := below_alloc w1 (.cells #[.int .i64 0, .int .i64 0, .slice none 0 0, .slice none 0 0] 26)
  have HB := Lib.hid hB1
  have HW := Lib.hid hw1
  have HBox := Lib.hid (hX1.on hres)
  have HN := Lib.hid ((HV.on hB1).on hres)
  have HI := Lib.hid (hd1.on hres)
  have HC := Lib.hid (ncheck_any _ a _ HN.out)
  have HO := Lib.hid ((own_start w1).dfa (.int .i64 0) (.int .i64 0) (.slice none 0 0) (.slice none 0 0))
  rw [hs1] at HO
  have heL := h.eL
  have hc0 := HBox.out.c0
  have hc1 := HBox.out.c1
  have hc2 := HBox.out.c2
  have hc3 := HBox.out.c3
  have hc4 := HBox.out.c4
  clear h hw1 hB1 hs1 hX1 hd1 HV hres
  rcases g1 : nchk a with _ | e0
  · have HG : Hid (Good a) := nchk_iff.1 g1
    rw [g1] at HC
    obtain ⟨p0, hp0⟩ := Int.eq_ofNat_of_zero_le (show 0 ≤ L by have := HG.out.l1; omega)
    have HL : Hid (a.L = (p0 : Int)) := by rw [Hid, heL, hp0]
    have hn1 : 1 ≤ p0 := by have := HG.out.l1; omega
    have hn6 : p0 ≤ 6 := by have := HG.out.l6; omega
    subst hp0
    have HPO : Hid (makeOut a = explOut (p0 : Int) (T64 a) (enc (beg a)) (fun x => decide (x &&& enc (a.fin.map Int.toNat) ≠ 0))) := by rw [Hid, makeOut_ok g1, ← make64 HG.out, HL.out]
    have HF1 := Lib.hid (fun W (hA : IntsAt W W.heap.size F a.fin) => setOf_any F cf a.fin W hA (by have := HG.out.f40; omega) (fin40 HG.out))
    have HFl : Hid (enc (a.fin.map Int.toNat) < 1099511627776) := enc_lt (lt40 HG.out (fins_lt HG.out))
    have HFs := Lib.hid (fun W v (hA : NfaAt W W.heap.size v a) => first_any v a W hA HG.out)
    have hr40 : ∀ X, Rch (T a) (beg a) X → ∀ t ∈ X, t < 40 := fun X hX => lt40 HG.out (rch_lt40 HG.out hX)
    have HE := Lib.hid (fun (W : World) (gf : Nat) (hbx : BoxN W w.heap.size (p0 : Int) n A a.st.length ca M a.mv.length cm F a.fin.length cf) (hna : NfaAt W W.heap.size (.agg #[.int .i64 (p0 : Int), .int .i64 n, .slice A a.st.length ca, .slice M a.mv.length cm, .slice F a.fin.length cf]) a) (hf : W.cell? ⟨gf, 0, none⟩ = some (.int .u64 ((enc (a.fin.map Int.toNat) : Nat) : Int))) =>
      explS_any 40 44 make1_call make2_call (.pointer (some ⟨w.heap.size, 0, none⟩)) (.pointer (some ⟨gf, 0, none⟩)) (T64 a) (enc (beg a)) (fun x => decide (x &&& enc (a.fin.map Int.toNat) ≠ 0)) p0 W hn1 hn6 (fun x => by rw [T64_len, HL.out]; rfl)
        (fun x hx => by obtain ⟨X, hX, rfl⟩ := rch64 HG.out hx; exact enc_lt (hr40 X hX))
        (fun x hx q t ht W2 hW2 => by
          obtain ⟨X, hX, rfl⟩ := rch64 HG.out hx
          rw [T64_at HG.out hX ht]
          exact make1_any (hbx.on hW2) (hna.on hW2) HG.out X (hr40 X hX) (q : Int))
        (fun x hx W2 hW2 => by
          obtain ⟨X, hX, rfl⟩ := rch64 HG.out hx
          exact make2_any ((hW2.cell (p := ⟨gf, 0, none⟩) (World.block_lt_of_cell? W _ hf)).trans hf) HFl.out _ (enc_lt (hr40 X hX))))
    clear g1 heL HL hr40 HFl
    rw [← HPO.out] at HE
    clear HPO
    generalize makeOut a = PO at *
    obtain ⟨po, en⟩ := PO
    simp only at HE ⊢
    generalize errV en = E at *
    generalize a.st.length = ks at *
    generalize a.mv.length = km at *
    generalize a.fin.length = kf at *
    generalize enc (a.fin.map Int.toNat) = ef at *
    go_enter Tryz.func14, Tryz.ntmps14
    go_wp2_with fail
    rw [← HW.out]
    clear HW
    refine HC.out.mono ?_
    rintro e w2 ⟨he, hb⟩
    obtain rfl : e = .returned .nilIface := he.out
    have HBox := Lib.hid (HBox.out.on hb)
    have HN := Lib.hid (HN.out.on hb)
    have HI := Lib.hid (HI.out.on hb)
    have HO2 := Lib.hid (HO.out.on hb)
    clear hb HC he hc0 hc1 hc2 hc3 hc4 HO
    have hc4 := HBox.out.c4
    have HF2 := Lib.hid (HF1.out w2 HI.out.fin)
    go_wp2_with fail
    refine HF2.out.mono ?_
    rintro e w3 ⟨rfl, hw3⟩
    rw [hw3]
    clear hw3 HF2 HF1 w3 hc4
    obtain ⟨w3, hw3⟩ : ∃ w3, w3 = w2.alloc (.cells #[.int .u64 (ef : Int)] 89) := ⟨_, rfl⟩
    have hb3 : Below w2.heap.size w2 w3 := by rw [hw3]; exact below_alloc _ _
    have hf3 : w3.cell? ⟨w2.heap.size, 0, none⟩ = some (.int .u64 (ef : Int)) := by rw [hw3]; exact box_cell w2 _ _ 0
    have HBox3 := Lib.hid (HBox.out.on hb3)
    have HN3 := Lib.hid (HN.out.on hb3)
    have HO3 := Lib.hid (HO2.out.on hb3)
    have HE := Lib.hid (fun W (hW : Below w3.heap.size w3 W) => HE.out W w2.heap.size (HBox3.out.on hW) (HN3.out.on hW) ((hW.cell (p := ⟨w2.heap.size, 0, none⟩) (World.block_lt_of_cell? w3 _ hf3)).trans hf3))
    have HFs := Lib.hid (HFs.out w3.drew _ (HN3.out.on (Below.refl _ _).drew))
    have HK : Hid (∀ W, Below w3.heap.size w3 W → W.cell? ⟨w.heap.size, 0, none⟩ = some (.int .i64 (p0 : Int)) ∧ W.cell? ⟨w.heap.size, 1, none⟩ = some (.int .i64 n) ∧ W.cell? ⟨w.heap.size, 2, none⟩ = some (.slice A ks ca) ∧ W.cell? ⟨w.heap.size, 3, none⟩ = some (.slice M km cm) ∧ W.cell? ⟨w.heap.size, 4, none⟩ = some (.slice F kf cf)) := fun W hW => box_agg (HBox3.out.on hW)
    have HW3 := Lib.hid hw3
    clear hw3 hb3 hf3 HBox HN HI HO2
    go_wp2_with fail
    rw [← HW3.out]
    clear HW3
    obtain ⟨gr, hgr⟩ : ∃ gr, gr = w.heap.size + 1 := ⟨_, rfl⟩
    rw [← hgr] at HO3
    rw [← hgr]
    have hne : w.heap.size ≠ gr := by omega
    clear hgr
    generalize w2.heap.size = gf at *
    refine wp_region_Z ((fun W => W.cell? ⟨w.heap.size, 0, none⟩ = some (.int .i64 (p0 : Int)) ∧ W.cell? ⟨w.heap.size, 1, none⟩ = some (.int .i64 n) ∧ W.cell? ⟨w.heap.size, 2, none⟩ = some (.slice A ks ca) ∧ W.cell? ⟨w.heap.size, 3, none⟩ = some (.slice M km cm) ∧ W.cell? ⟨w.heap.size, 4, none⟩ = some (.slice F kf cf))) 10 (by kernel_rfl) (HK.out _ (Below.refl _ _).drew) (fun hHeld => ?_)
    refine wpZ_take (i := 0) (v := ?_) rfl (by kernel_rfl) (by kernel_rfl) (by kernel_rfl) (by kernel_rfl) (fun _ _ _ h => h) (Or.inl ⟨by rfl, ?_⟩) hHeld ?_
    rotate_left
    · (go_light; intro w9 hSw; (try dsimp only at hSw); go_simp; try with_reducible rfl)
    try simp only [Act.put, List.setIfInBounds_toArray, List.set_cons_zero, List.set_cons_succ]
    refine wpZ_take (i := 1) (v := ?_) rfl (by kernel_rfl) (by kernel_rfl) (by kernel_rfl) (by kernel_rfl) (fun _ _ _ h => h) (Or.inl ⟨by rfl, ?_⟩) hHeld ?_
    rotate_left
    · (go_light; intro w9 hSw; (try dsimp only at hSw); go_simp; try with_reducible rfl)
    try simp only [Act.put, List.setIfInBounds_toArray, List.set_cons_zero, List.set_cons_succ]
    refine wpZ_take (i := 2) (v := ?_) rfl (by kernel_rfl) (by kernel_rfl) (by kernel_rfl) (by kernel_rfl) (fun _ _ _ h => h) (Or.inl ⟨by rfl, ?_⟩) hHeld ?_
    rotate_left
    · (go_light; intro w9 hSw; (try dsimp only at hSw); go_simp; try with_reducible rfl)
    try simp only [Act.put, List.setIfInBounds_toArray, List.set_cons_zero, List.set_cons_succ]
    refine wpZ_take (i := 4) (v := ?_) rfl (by kernel_rfl) (by kernel_rfl) (by kernel_rfl) (by kernel_rfl) (fun _ _ _ h => h) (Or.inl ⟨by rfl, ?_⟩) hHeld ?_
    rotate_left
    · (go_light; intro w9 hSw; (try dsimp only at hSw); go_simp; try with_reducible rfl)
    try simp only [Act.put, List.setIfInBounds_toArray, List.set_cons_zero, List.set_cons_succ]
    refine wpZ_take (i := 5) (v := ?_) rfl (by kernel_rfl) (by kernel_rfl) (by kernel_rfl) (by kernel_rfl) (fun _ _ _ h => h) (Or.inl ⟨by rfl, ?_⟩) hHeld ?_
    rotate_left
    · (go_light; intro w9 hSw; (try dsimp only at hSw); go_simp; try with_reducible rfl)
    try simp only [Act.put, List.setIfInBounds_toArray, List.set_cons_zero, List.set_cons_succ]
    refine wpZ_one (i := 3) rfl (by kernel_rfl) (fun K hK => ?_)
    go_simp
    refine HFs.out.mono ?_
    rintro e w5 ⟨rfl, hb⟩
    have HB5 := Lib.hid ((Below.refl w3.heap.size w3).drew.trans hb)
    clear hb
    try simp only []
    refine hK.out _ _ (fun _ => HK.out _ HB5.out) (fun hHeld9 => ?_)
    replace hHeld := hHeld9 (by decide)
    clear hHeld9
    clear hK K
    try simp only [Act.put, List.setIfInBounds_toArray, List.set_cons_zero, List.set_cons_succ]
    refine wpZ_one (i := 6) rfl (by kernel_rfl) (fun K hK => ?_)
    go_simp
    refine (HE.out _ HB5.out).mono ?_
    rintro e w6 he
    obtain ⟨x, h6, ho6⟩ := he.out
    subst h6
    have HO6 := Lib.hid ho6
    have HB6 := Lib.hid (HB5.out.trans (ho6.below.mono HB5.out.size))
    obtain ⟨nv, fv, A5, n5, c5, F5, m5, k5, e6, e7, e8⟩ := ho6.form
    generalize po.L = L5 at *
    generalize po.s = s5 at *
    subst e6 e7 e8
    clear he ho6
    try simp only []
    refine hK.out _ _ (fun _ => HK.out _ HB6.out) (fun hHeld9 => ?_)
    replace hHeld := hHeld9 (by decide)
    clear hHeld9
    clear hK K
    try simp only [Act.put, List.setIfInBounds_toArray, List.set_cons_zero, List.set_cons_succ]
    refine wpZ_take (i := 7) (v := ?_) rfl (by kernel_rfl) (by kernel_rfl) (by kernel_rfl) (by kernel_rfl) (fun _ _ _ h => h) (Or.inl ⟨by rfl, ?_⟩) hHeld ?_
    rotate_left
    · (go_light; intro w9 hSw; (try dsimp only at hSw); go_simp; try with_reducible rfl)
    try simp only [Act.put, List.setIfInBounds_toArray, List.set_cons_zero, List.set_cons_succ]
    refine wpZ_take (i := 8) (v := ?_) rfl (by kernel_rfl) (by kernel_rfl) (by kernel_rfl) (by kernel_rfl) (fun _ _ _ h => h) (Or.inl ⟨by rfl, ?_⟩) hHeld ?_
    rotate_left
    · (go_light; intro w9 hSw; (try dsimp only at hSw); go_simp; try with_reducible rfl)
    try simp only [Act.put, List.setIfInBounds_toArray, List.set_cons_zero, List.set_cons_succ]
    refine wpZ_one (i := 9) rfl (by kernel_rfl) (fun K hK => ?_)
    have hr := HO3.out.on HB6.out
    obtain ⟨hr0, hf0⟩ := hr.dcell (g := gr) (l := zero4) (j := 0) (by simp) rfl
    obtain ⟨hr1, hf1⟩ := hr.dcell (g := gr) (l := zero4) (j := 1) (by simp) rfl
    obtain ⟨hr2, hf2⟩ := hr.dcell (g := gr) (l := zero4) (j := 2) (by simp) rfl
    obtain ⟨hr3, hf3⟩ := hr.dcell (g := gr) (l := zero4) (j := 3) (by simp) rfl
    go_simp
    refine hK.out _ _ (fun _ => ⟨(cell4 hne _ _ _ _ _).trans (HK.out _ HB6.out).1, (cell4 hne _ _ _ _ _).trans (HK.out _ HB6.out).2.1, (cell4 hne _ _ _ _ _).trans (HK.out _ HB6.out).2.2.1, (cell4 hne _ _ _ _ _).trans (HK.out _ HB6.out).2.2.2.1, (cell4 hne _ _ _ _ _).trans (HK.out _ HB6.out).2.2.2.2⟩) (fun hHeld9 => ?_)
    replace hHeld := hHeld9 (by decide)
    clear hHeld9
    clear hK K
    try simp only [Act.put, List.setIfInBounds_toArray, List.set_cons_zero, List.set_cons_succ]
    refine wpZ_one (i := 10) rfl (by kernel_rfl) (fun K hK => ?_)
    go_simp
    refine hK.out _ _ (fun k => absurd rfl k) (fun _ => ?_)
    clear hK K
    try simp only [Act.put, List.setIfInBounds_toArray, List.set_cons_zero, List.set_cons_succ]
    refine wpZ_done (by kernel_rfl) ?_ _
    obtain ⟨k1, k3, k4, k5', k6⟩ := res_own (HO3.out.on HB5.out) HO6.out rfl
    have HEnd := Lib.hid (k1.base HB.out)
    clear hHeld HK HO3 HO6 HBox3 HN3 HE
    go_wp2
    refine bodyPost_ret (results_dfa rfl _ rfl k3 k4 k5' k6) rfl ⟨_, rfl, HEnd.out⟩
  · have HNo : Hid (makeOut a = (zeroA, e0 + 1)) := by unfold Hid; rw [makeOut_bad (by omega), g1]
    rw [g1] at HC
    clear g1 HBox HN HI heL
    generalize a.st.length = ks at *
    generalize a.mv.length = km at *
    generalize a.fin.length = kf at *
    rw [show errV (e0 + 1) = errI ((e0 + 1 : Nat) : Int) from rfl] at HC
    generalize hE : ((e0 + 1 : Nat) : Int) = E at *
    have HE := Lib.hid hE
    clear hE
    go_enter Tryz.func14, Tryz.ntmps14
    go_wp2_with fail
    rw [← HW.out]
    clear HW
    refine HC.out.mono ?_
    rintro e w2 ⟨he, hb⟩
    obtain rfl : e = .returned (errI E) := he.out
    have HO2 := Lib.hid (HO.out.on hb)
    obtain ⟨hr0, hf0⟩ := HO2.out.dcell (g := w.heap.size + 1) (l := zero4) (j := 0) (by simp) rfl
    obtain ⟨hr1, hf1⟩ := HO2.out.dcell (g := w.heap.size + 1) (l := zero4) (j := 1) (by simp) rfl
    obtain ⟨hr2, hf2⟩ := HO2.out.dcell (g := w.heap.size + 1) (l := zero4) (j := 2) (by simp) rfl
    obtain ⟨hr3, hf3⟩ := HO2.out.dcell (g := w.heap.size + 1) (l := zero4) (j := 3) (by simp) rfl
    clear hb HC hc0 hc1 hc2 hc3 hc4 he
    have HEnd := Lib.hid (res_bad HO2.out rfl)
    go_wp2
    obtain ⟨k2, k3, k4, k5, k6⟩ := HEnd.out
    refine bodyPost_ret (results_dfa rfl _ rfl k3 k4 k5 k6) rfl ⟨_, by rw [HNo.out, errV_succ, HE.out]; rfl, by rw [HNo.out]; exact dfaOwn_zero (HB.out.trans (k2.mono HB.out.size))⟩
end Go.Proofs.YtloihkoamccacaaGreatDoor.Nf
