/- The walk of edit.New. Editors to which letters are offered: stilewardlaw4.edited; the closed fact. -/
import Derived.Test.YtfiknbdpjnpkdaaEditW
import Derived.Test.YtfiknbdpjnpkdaaDfaV
import Derived.Test.YtfiknbdpjnpkdaaTwo
import Derived.Deep.RegionHeld3
namespace Go.Proofs.Ytfiknbdpjnpkdaa.Ed
open Go.RowKit Go.IntWalk Go.Proofs.Ytfiknbdpjnpkdaa.Wd Go.Proofs.Ytfiknbdpjnpkdaa.Wo Go.Proofs.Ytfiknbdpjnpkdaa.Df Go.Proofs.Ytfiknbdpjnpkdaa.Rc Go.Proofs.Ytfiknbdpjnpkdaa.Sm Go.Proofs.Ytfiknbdpjnpkdaa.Sa Go.Proofs.Ytfiknbdpjnpkdaa.Ga

/-- What an automaton that is owned, done, reads as. -/
theorem own_form4 {w w' : World} {x : Value} {d : Aut} (h : DfaNew w w' x d) : ∃ L s A n c F m cf, x = .agg #[.int .i64 L, .int .i64 s, .slice A n c, .slice F m cf] := (h.own.at_).form
set_option maxRecDepth 100000 in
set_option maxHeartbeats 2000000 in
theorem enew_ok (v : Value) (d : Aut) (w : World) (h : DfaAt w w.heap.size v d) (hg : Df.Good d) (hem : accA d [] = true) :
    Calls Try.prog 12 #[v] w fun e w' => Hid (∃ g, e = .returned (.tuple #[.pointer (some ⟨g, 0, none⟩), .nilIface]) ∧ EditW w w' g d (edit0 d) [] []) := by
  have HV := h
  obtain ⟨L, s, A, c, F, cf, rfl, h⟩ := h
  obtain ⟨w1, hw1, hB1, hX, hd1⟩ := box_dfa w h
  have HB := Lib.hid hB1
  have HV := Lib.hid (HV.on hB1)
  have HW := Lib.hid hw1
  have hc0 := hX.c0
  have hc1 := hX.c1
  have hc2 := hX.c2
  have hc3 := hX.c3
  have HY := Lib.hid (fun v W (hA : DfaAt W W.heap.size v d) => copy_ok v d W hA (dchk_iff.2 hg))
  have HFin : Hid (d.fin[d.s.toNat]? = some true) := by
    have h1 := hg.fin_at hg.s_lt
    have h3 : accA d [] = finA d d.s.toNat := rfl
    rwa [← h3, hem] at h1
  have HS0 : Hid (0 ≤ d.s) := hg.st.1
  clear h hd1 hw1 hX hB1 hg hem
  generalize d.next.length = n at *
  generalize hm : d.fin.length = m at *
  clear hm
  go_enter Try.func12, Try.ntmps12
  go_wp2_with fail
  rw [← HW.out]
  clear HW
  refine (HY.out _ _ HV.out).mono ?_
  rintro e w3 he
  obtain ⟨x, rfl, hN⟩ := he.out
  obtain ⟨L2, s2, A2, n2, c2, F2, m2, cf2, rfl⟩ := own_form4 hN
  have hat := hN.own.at_
  obtain ⟨eL, es, en, em⟩ := hat.eqs
  obtain ⟨q, hq⟩ : ∃ q : Nat, s2 = (q : Int) := ⟨s2.toNat, by have := HS0.out; omega⟩
  subst hq
  have hfin := HFin.out
  rw [es, Int.toNat_natCast] at hfin
  obtain ⟨w4, hw4, hB4, hV4⟩ := var_new w3 hat
  obtain ⟨_, k1, k2, k3, k4⟩ := hV4.box
  obtain ⟨L9, s9, A9, c9, F9, cf9, e9, hd9⟩ := id hat
  simp only [Value.agg.injEq, Array.mk.injEq, List.cons.injEq, Value.int.injEq, Value.slice.injEq, true_and, and_true] at e9
  obtain ⟨rfl, rfl, ⟨rfl, e91, rfl⟩, rfl, e92, rfl⟩ := e9
  obtain ⟨ad, hF2, hblk, hcell, hym⟩ := hd9.fins.at_ hfin
  subst hF2
  rw [em] at hym
  have HE := Lib.hid (edit_new (dnew_move hN hB4))
  rw [hw4, show (w3.alloc (.cells #[.int .i64 L2, .int .i64 (q : Int), .slice A2 n2 c2, .slice (some ad) m2 cf2] 25)).heap.size = w3.heap.size + 1 by simp] at HE
  have hcell4 : w4.cell? (ad.add q) = some (.bool true) := by rw [hB4.cell (by rw [block_add]; exact hblk)]; exact hcell
  clear e91 e92
  rw [hw4] at hcell4 k1 k2 k3 k4
  clear he hN eL es en em hfin hw4 hB4 hV4 hat hd9 hc0 hc1 hc2 hc3 HFin HS0 HV HY
  go_wp2
  go_ret2
  exact ⟨_, rfl, HE.out.base HB.out⟩
set_option maxRecDepth 100000 in
set_option maxHeartbeats 2000000 in
theorem enew_bad (v : Value) (d : Aut) (w : World) (h : DfaAt w w.heap.size v d) (hg : echk d ≠ 0) :
    Calls Try.prog 12 #[v] w fun e w' => Hid (e = .returned (.tuple #[.pointer none, errV (echk d)])) ∧ Below w.heap.size w w' := by
  have HV := h
  obtain ⟨L, s, A, c, F, cf, rfl, h⟩ := h
  obtain ⟨w1, hw1, hB1, hX, hd1⟩ := box_dfa w h
  have HB := Lib.hid hB1
  have HV := Lib.hid (HV.on hB1)
  have HW := Lib.hid hw1
  have hc0 := hX.c0
  have hc1 := hX.c1
  have hc2 := hX.c2
  have hc3 := hX.c3
  rcases g1 : dchk d with _ | e0
  · have hd := dchk_iff.1 g1
    have HY := Lib.hid (fun v W (hA : DfaAt W W.heap.size v d) => copy_ok v d W hA g1)
    have hem : accA d [] = false := by
      rcases hf : accA d [] with _ | _
      · rfl
      · exact absurd (echk_iff.2 ⟨hd, hf⟩) hg
    have HG : Hid (echk d = 8) := by unfold echk Hid; rw [if_neg (by omega), if_pos hem]
    have HFin : Hid (d.fin[d.s.toNat]? = some false) := by
      have h1 := hd.fin_at hd.s_lt
      have h3 : accA d [] = finA d d.s.toNat := rfl
      rwa [← h3, hem] at h1
    have HS0 : Hid (0 ≤ d.s) := hd.st.1
    clear h hd1 hw1 hX hB1 hg hem hd g1
    generalize d.next.length = n at *
    generalize hm : d.fin.length = m at *
    clear hm
    go_enter Try.func12, Try.ntmps12
    go_wp2_with fail
    rw [← HW.out]
    clear HW
    refine (HY.out _ _ HV.out).mono ?_
    rintro e w3 he
    obtain ⟨x, rfl, hN⟩ := he.out
    obtain ⟨L2, s2, A2, n2, c2, F2, m2, cf2, rfl⟩ := own_form4 hN
    have hat := hN.own.at_
    obtain ⟨eL, es, en, em⟩ := hat.eqs
    obtain ⟨q, hq⟩ : ∃ q : Nat, s2 = (q : Int) := ⟨s2.toNat, by have := HS0.out; omega⟩
    subst hq
    have hfin := HFin.out
    rw [es, Int.toNat_natCast] at hfin
    obtain ⟨w4, hw4, hB4, hV4⟩ := var_new w3 hat
    obtain ⟨_, k1, k2, k3, k4⟩ := hV4.box
    obtain ⟨L9, s9, A9, c9, F9, cf9, e9, hd9⟩ := id hat
    simp only [Value.agg.injEq, Array.mk.injEq, List.cons.injEq, Value.int.injEq, Value.slice.injEq, true_and, and_true] at e9
    obtain ⟨rfl, rfl, ⟨rfl, e91, rfl⟩, rfl, e92, rfl⟩ := e9
    obtain ⟨ad, hF2, hblk, hcell, hym⟩ := hd9.fins.at_ hfin
    subst hF2
    rw [em] at hym
    have HE := Lib.hid (HB.out.trans ((hN.own.below.trans (hB4.mono hN.own.below.size)).mono HB.out.size))
    have hcell4 : w4.cell? (ad.add q) = some (.bool false) := by rw [hB4.cell (by rw [block_add]; exact hblk)]; exact hcell
    clear e91 e92
    rw [hw4] at hcell4 k1 k2 k3 k4 HE
    clear he hN eL es en em hfin hw4 hB4 hV4 hat hd9 hc0 hc1 hc2 hc3 HFin HS0 HV HY HB
    go_wp2
    go_ret2
    exact ⟨by rw [HG.out]; rfl, HE.out⟩
  · have HY := Lib.hid (fun v W (hA : DfaAt W W.heap.size v d) => copy_bad v d W hA g1)
    have HG : Hid (echk d = e0 + 1) := by unfold echk Hid; rw [if_pos (by omega), g1]
    clear h hd1 hw1 hX hB1 g1 hg
    generalize d.next.length = n at *
    generalize d.fin.length = m at *
    generalize hE : ((e0 + 1 : Nat) : Int) = E at *
    have HE := Lib.hid hE
    clear hE
    go_enter Try.func12, Try.ntmps12
    go_wp2_with fail
    rw [← HW.out]
    clear HW
    refine (HY.out _ _ HV.out).mono ?_
    rintro e w2 ⟨he, hb⟩
    obtain rfl := he.out
    have HB := Lib.hid (HB.out.trans ((hb.alloc hb.size (.cells #[.int .i64 0, .int .i64 0, .slice none 0 0, .slice none 0 0] 25)).mono HB.out.size))
    clear hb hc0 hc1 hc2 hc3 HY HV he
    go_wp2
    go_ret2
    exact ⟨by rw [HG.out, errV_succ, HE.out]; rfl, HB.out⟩
/-! ### edited -/
theorem eoffer_errs (d : Aut) (E : Et) (a : Int) : ((eoffer d E a).1 = 0 ∧ ∀ w, took d E a w = w ++ [a]) ∨ ((eoffer d E a).1 = 1 ∧ ∀ w, took d E a w = w) ∨ ((eoffer d E a).1 = 4 ∧ ∀ w, took d E a w = w) := by
  unfold took
  rcases eoffer_ways d E a with ⟨_, q⟩ | ⟨_, _, q⟩ | ⟨_, _, _, q⟩ | ⟨_, _, _, q⟩ <;> rw [q] <;> simp
/-! ### for the laws -/
/-- A list comes back. -/
def LOut (w w' : World) (e : Ending) (l : List Int) : Prop := ∃ A c, e = .returned (.slice A l.length c) ∧ Hid (IntsAt w' w'.heap.size A l) ∧ Hid (l.length ≤ c) ∧ Below w.heap.size w w'
theorem eout_gives {w0 w : World} {g : Nat} {d : Aut} {E : Et} {wd : List Int} {es fs : List Ent} (hE : EditW w0 w g d E es fs) (hd : Df.Good d) (hk : Eok d E wd) :
    Calls Try.prog 14 #[.pointer (some ⟨g, 0, none⟩)] w fun e w' => LOut w w' e E.out := (eout_any w0 w g d E es fs hE (eok_small hd hk).1 (eok_small hd hk).2).mono fun e w' he => by
  obtain ⟨v', rfl, ho⟩ := he.out
  obtain ⟨A, c, rfl, h1, _, h2⟩ := own_ints_at ho (List.mem_append_left _ List.mem_cons_self) (fun x hx => (eok_small hd hk).1 x (List.mem_append_left _ hx))
  exact ⟨A, c, rfl, h2, h1, ho.below⟩
theorem held_gives {w0 w : World} {g : Nat} {d : Aut} {E : Et} {wd : List Int} {es fs : List Ent} (hE : EditW w0 w g d E es fs) (hd : Df.Good d) (hk : Eok d E wd) :
    Calls Try.prog 15 #[.pointer (some ⟨g, 0, none⟩)] w fun e w' => LOut w w' e E.held := (held_any w0 w g d E es fs hE (eok_small hd hk).1 (eok_small hd hk).2).mono fun e w' he => by
  obtain ⟨v', rfl, ho⟩ := he.out
  obtain ⟨A, c, rfl, h1, _, h2⟩ := own_ints_at ho (List.mem_append_left _ List.mem_cons_self) (fun x hx => (eok_small hd hk).1 x (List.mem_append_right _ hx))
  exact ⟨A, c, rfl, h2, h1, ho.below⟩
/-- An editor that is only read from now on, and what it took. -/
def EditR (w : World) (g : Nat) (d : Aut) (E : Et) (wd : List Int) : Prop := Df.Good d ∧ Eok d E wd ∧ ∃ w0 es fs, EditW w0 w g d E es fs
theorem EditR.on {w w' : World} {g : Nat} {d : Aut} {E : Et} {wd : List Int} (h : EditR w g d E wd) (hb : Below w.heap.size w w') : EditR w' g d E wd := by
  obtain ⟨h1, h2, w0, es, fs, h⟩ := h
  exact ⟨h1, h2, w0, es, fs, h.on hb⟩
theorem rout_e {w : World} {g : Nat} {d : Aut} {E : Et} {wd : List Int} (h : EditR w g d E wd) : Calls Try.prog 14 #[.pointer (some ⟨g, 0, none⟩)] w fun e w' => LOut w w' e E.out := by
  obtain ⟨h1, h2, w0, es, fs, h⟩ := h
  exact eout_gives h h1 h2
theorem rheld_e {w : World} {g : Nat} {d : Aut} {E : Et} {wd : List Int} (h : EditR w g d E wd) : Calls Try.prog 15 #[.pointer (some ⟨g, 0, none⟩)] w fun e w' => LOut w w' e E.held := by
  obtain ⟨h1, h2, w0, es, fs, h⟩ := h
  exact held_gives h h1 h2
/-! ### the closed fact -/
theorem pairs_e : echk pairsA = 0 := by decide +kernel
def factE : Et := ⟨1, [0, 1], [1]⟩
set_option maxRecDepth 100000 in
theorem fact_offers : eoffers pairsA (edit0 pairsA, []) (([0, 1, 1] : List Int).take 200) = (factE, [0, 1, 1]) := by kernel_rfl
theorem lit3 (w : World) : IntsAt (w.alloc (.cells #[.int .i64 0, .int .i64 1, .int .i64 1] 3)) (w.alloc (.cells #[.int .i64 0, .int .i64 1, .int .i64 1] 3)).heap.size (some ⟨w.heap.size, 0, none⟩) [0, 1, 1] :=
  lit_ints w [0, 1, 1] (by intro x hx; simp only [List.mem_cons, List.not_mem_nil, or_false] at hx; rcases hx with rfl | rfl | rfl <;> exact ⟨by decide, by decide⟩) (by decide)
theorem lit2 (w : World) : IntsAt (w.alloc (.cells #[.int .i64 0, .int .i64 1] 3)) (w.alloc (.cells #[.int .i64 0, .int .i64 1] 3)).heap.size (some ⟨w.heap.size, 0, none⟩) [0, 1] :=
  lit_ints w [0, 1] (by intro x hx; simp only [List.mem_cons, List.not_mem_nil, or_false] at hx; rcases hx with rfl | rfl <;> exact ⟨by decide, by decide⟩) (by decide)
theorem lit1 (w : World) : IntsAt (w.alloc (.cells #[.int .i64 1] 3)) (w.alloc (.cells #[.int .i64 1] 3)).heap.size (some ⟨w.heap.size, 0, none⟩) [1] :=
  lit_ints w [1] (by intro x hx; simp only [List.mem_cons, List.not_mem_nil, or_false] at hx; rcases hx with rfl <;> exact ⟨by decide, by decide⟩) (by decide)
theorem fact_out {W : World} {g : Nat} (h : EditR W g pairsA factE [0, 1, 1]) : Calls Try.prog 14 #[.pointer (some ⟨g, 0, none⟩)] W fun e w' => ∃ A c, e = .returned (.slice A 2 c) ∧ Hid (IntsAt w' w'.heap.size A [0, 1]) ∧ Below W.heap.size W w' :=
  (rout_e h).mono fun _ _ ⟨A, c, h1, h2, _, h3⟩ => ⟨A, c, h1, h2, h3⟩
theorem fact_held {W : World} {g : Nat} (h : EditR W g pairsA factE [0, 1, 1]) : Calls Try.prog 15 #[.pointer (some ⟨g, 0, none⟩)] W fun e w' => ∃ A c, e = .returned (.slice A 1 c) ∧ Hid (IntsAt w' w'.heap.size A [1]) ∧ Below W.heap.size W w' :=
  (rheld_e h).mono fun _ _ ⟨A, c, h1, h2, _, h3⟩ => ⟨A, c, h1, h2, h3⟩
end Go.Proofs.Ytfiknbdpjnpkdaa.Ed
