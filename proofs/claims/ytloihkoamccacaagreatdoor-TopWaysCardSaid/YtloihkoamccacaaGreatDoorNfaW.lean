/- The walks of package nfa: Check, sets as numbers, Accepts. -/
import Derived.Test.YtloihkoamccacaaGreatDoorNfaA
import Derived.Laws.Bits64b
import Derived.Deep.RegionHeld3
import Derived.Handy
namespace Go.Proofs.YtloihkoamccacaaGreatDoor.Nf
open Go.RowKit Go.IntWalk Go.Proofs.YtloihkoamccacaaGreatDoor.Wd Go.Proofs.YtloihkoamccacaaGreatDoor.Wo Go.Proofs.YtloihkoamccacaaGreatDoor.Df

/-- The block in which such an automaton that came in lies. -/
structure BoxN (w1 : World) (g : Nat) (L n : Int) (A : Option Addr) (k c : Nat) (M : Option Addr) (km cm : Nat) (F : Option Addr) (kf cf : Nat) : Prop where
  lt : g < w1.heap.size
  c0 : w1.cell? ⟨g, 0, none⟩ = some (.int .i64 L)
  c1 : w1.cell? ⟨g, 1, none⟩ = some (.int .i64 n)
  c2 : w1.cell? ⟨g, 2, none⟩ = some (.slice A k c)
  c3 : w1.cell? ⟨g, 3, none⟩ = some (.slice M km cm)
  c4 : w1.cell? ⟨g, 4, none⟩ = some (.slice F kf cf)
theorem BoxN.on {w1 w2 : World} {g : Nat} {L n : Int} {A M F : Option Addr} {k c km cm kf cf : Nat} (h : BoxN w1 g L n A k c M km cm F kf cf) (hb : Below w1.heap.size w1 w2) : BoxN w2 g L n A k c M km cm F kf cf :=
  ⟨Nat.lt_of_lt_of_le h.lt hb.size, (hb.cell h.lt).trans h.c0, (hb.cell h.lt).trans h.c1, (hb.cell h.lt).trans h.c2, (hb.cell h.lt).trans h.c3, (hb.cell h.lt).trans h.c4⟩
/-- The boxed world, its facts laid. -/
theorem box_nfa (w : World) {L n : Int} {A M F : Option Addr} {c cm cf : Nat} {a : Nfa} (h : NfaIs w w.heap.size L n A c M cm F cf a) :
    ∃ w1, w1 = w.alloc (.cells #[.int .i64 L, .int .i64 n, .slice A a.st.length c, .slice M a.mv.length cm, .slice F a.fin.length cf] 42) ∧ Below w.heap.size w w1 ∧ w1.heap.size = w.heap.size + 1 ∧ BoxN w1 w.heap.size L n A a.st.length c M a.mv.length cm F a.fin.length cf ∧ NfaIs w1 w1.heap.size L n A c M cm F cf a :=
  ⟨_, rfl, below_alloc _ _, by simp, ⟨by simp, box_cell w _ _ 0, box_cell w _ _ 1, box_cell w _ _ 2, box_cell w _ _ 3, box_cell w _ _ 4⟩, h.on (below_alloc _ _)⟩

set_option maxRecDepth 100000 in
theorem isN_any (L n : Int) (A M F : Option Addr) (k c km cm kf cf : Nat) (x : Int) (w : World) (r : Bool) (hr : r = decide (0 ≤ x ∧ x < n)) :
    Calls Tryz.prog 68 #[.agg #[.int .i64 L, .int .i64 n, .slice A k c, .slice M km cm, .slice F kf cf], .int .i64 x] w fun e w' => e = .returned (.bool r) ∧ Below w.heap.size w w' := by
  have HR := Lib.hid hr
  by_cases h1 : 0 ≤ x
  · by_cases h2 : x < n
    · obtain rfl : r = true := by rw [HR.out]; exact decide_eq_true ⟨h1, h2⟩
      clear hr HR
      go_enter Tryz.func68, Tryz.ntmps68
      go_wp2
      go_ret
      exact ⟨rfl, below_alloc _ _⟩
    · obtain rfl : r = false := by rw [HR.out]; exact decide_eq_false (fun h => h2 h.2)
      clear hr HR
      go_enter Tryz.func68, Tryz.ntmps68
      go_wp2
      go_ret
      exact ⟨rfl, below_alloc _ _⟩
  · obtain rfl : r = false := by rw [HR.out]; exact decide_eq_false (fun h => h1 h.1)
    clear hr HR
    go_enter Tryz.func68, Tryz.ntmps68
    go_wp2
    go_ret
    exact ⟨rfl, below_alloc _ _⟩
set_option maxRecDepth 100000 in
theorem none_any {L n : Int} {A M F : Option Addr} {k c km cm kf cf : Nat} {g : Nat} {w : World} (hb : BoxN w g L n A k c M km cm F kf cf) (x : Int) :
    Calls Tryz.prog 67 #[.int .i64 x, .pointer (some ⟨g, 0, none⟩)] w fun e w' => e = .returned (.bool (!decide (0 ≤ x ∧ x < n))) ∧ Below w.heap.size w w' := by
  have HI := Lib.hid (isN_any L n A M F k c km cm kf cf x w _ rfl)
  have hc0 := hb.c0
  have hc1 := hb.c1
  have hc2 := hb.c2
  have hc3 := hb.c3
  have hc4 := hb.c4
  clear hb
  generalize decide (0 ≤ x ∧ x < n) = r at *
  go_enter Tryz.func67, Tryz.ntmps67
  go_wp2_with fail
  refine HI.out.mono ?_
  rintro e w2 ⟨rfl, hb⟩
  have HB := Lib.hid hb
  clear hb
  go_wp2
  go_ret
  exact ⟨rfl, HB.out⟩

/-! ### slices.ContainsFunc at ints -/
set_option maxRecDepth 100000 in
set_option maxHeartbeats 1000000 in
theorem idxf_any (fn : Nat) (hcf : ∀ args W, (callFunc fn args).run Tryz.prog W = .ok (.enter fn args) W) (q : Value) (A : Option Addr) (c : Nat) (l : List Int) (p : Int → Bool) (w : World) (hA : IntsAt w w.heap.size A l) (hl : l.length ≤ 1099511627776)
    (hF : ∀ x ∈ l, ∀ W, Below w.heap.size w W → Calls Tryz.prog fn #[.int .i64 x, q] W fun e w' => e = .returned (.bool (p x)) ∧ Below W.heap.size W w') :
    Calls Tryz.prog 83 #[.slice A l.length c, .func (.func fn) #[] #[q]] w fun e w' => Hid (∃ z : Int, e = .returned (.int .i64 z) ∧ (decide (0 ≤ z) = l.any p)) ∧ Below w.heap.size w w' := by
  have HA := Lib.hid hA
  have HF := Lib.hid hF
  have HY : Hid (∀ x ∈ l.take 0, p x = false) := by simp [Hid]
  have HB0 : Hid (Below w.heap.size w w) := Below.refl _ _
  clear hA hF
  go_enter Tryz.func83, Tryz.ntmps83
  go_wp2
  go_loopw [8] (fun i wr => ∃ (k : Nat), k ≤ l.length ∧ i = .int .i64 k ∧ Hid (Below w.heap.size w wr) ∧ Hid (∀ x ∈ l.take k, p x = false)) (fun i _ => l.length - (intOf i).toNat)
  case atStart => exact ⟨0, by omega, rfl, HB0, HY⟩
  case round =>
    clear HY HB0
    obtain ⟨k, hk, rfl, HB, HE⟩ := hrel
    by_cases hlt : k < l.length
    · obtain ⟨ad, e, hadb, hcell, _⟩ := (HA.out.on HB.out).get (List.getElem?_eq_getElem hlt)
      subst e
      have HC := Lib.hid (HF.out l[k] (List.getElem_mem hlt) wr HB.out)
      by_cases hp : p l[k] = true
      · rw [hp] at HC
        have HR : Hid (l.any p = true) := List.any_eq_true.2 ⟨l[k], List.getElem_mem hlt, hp⟩
        clear hp
        generalize l[k] = y at *
        go_wp2_with fail
        refine HC.out.mono ?_
        rintro e w2 ⟨rfl, hb⟩
        have HB2 := Lib.hid (HB.out.trans (hb.mono HB.out.size))
        clear hb HC
        go_wp2
        go_ret
        exact ⟨⟨_, rfl, by rw [HR.out]; exact decide_eq_true (by omega)⟩, HB2.out⟩
      · have hp' : p l[k] = false := by simpa using hp
        rw [hp'] at HC
        have HN := Lib.hid (all_take_succ HE.out hlt hp')
        clear hp hp'
        generalize l[k] = y at *
        go_wp2_with fail
        refine HC.out.mono ?_
        rintro e w2 ⟨rfl, hb⟩
        have HB2 := Lib.hid (HB.out.trans (hb.mono HB.out.size))
        clear hb HC
        go_wp2
        go_roundw
        case rel => exact ⟨k + 1, by omega, by go_num, HB2, HN⟩
        case measure => simp [intOf]; omega
    · have HR : Hid (l.any p = false) := by
        have h9 := all_take_end HE.out (show l.length ≤ k by omega)
        exact List.any_eq_false.2 fun x hx => by rw [h9 x hx]; simp
      go_wp2
      go_ret
      exact ⟨⟨_, rfl, by rw [HR.out]; rfl⟩, HB.out⟩
set_option maxRecDepth 100000 in
theorem hasf_any (fn : Nat) (hcf : ∀ args W, (callFunc fn args).run Tryz.prog W = .ok (.enter fn args) W) (q : Value) (A : Option Addr) (c : Nat) (l : List Int) (p : Int → Bool) (w : World) (hA : IntsAt w w.heap.size A l) (hl : l.length ≤ 1099511627776)
    (hF : ∀ x ∈ l, ∀ W, Below w.heap.size w W → Calls Tryz.prog fn #[.int .i64 x, q] W fun e w' => e = .returned (.bool (p x)) ∧ Below W.heap.size W w') :
    Calls Tryz.prog 69 #[.slice A l.length c, .func (.func fn) #[] #[q]] w fun e w' => e = .returned (.bool (l.any p)) ∧ Below w.heap.size w w' := by
  have HI := Lib.hid (idxf_any fn hcf q A c l p w hA hl hF)
  clear hA hF
  generalize l.any p = r at *
  go_enter Tryz.func69, Tryz.ntmps69
  go_wp2_with fail
  refine HI.out.mono ?_
  rintro e w2 ⟨he, hb⟩
  obtain ⟨z, rfl, hz⟩ := he.out
  have HB := Lib.hid hb
  have HZ := Lib.hid hz
  clear hb he hz HI
  go_wp2
  go_ret
  exact ⟨by show Ending.returned (Value.bool (decide (0 ≤ z))) = _; rw [HZ.out], HB.out⟩

/-! ### Check -/
theorem none_call (args : Array Value) (W : World) : (callFunc 67 args).run Tryz.prog W = .ok (.enter 67 args) W := by
  have hn : ¬ Tryz.f67.name = "runtime.NumGoroutine" := of_decide_eq_false (by kernel_rfl)
  have hb : ¬ Tryz.f67.body = none := fun h => by
    have : Tryz.f67.body.isSome = true := by kernel_rfl
    rw [h] at this; cases this
  simp [callFunc, go_sem, hn, hb]
theorem nchk_range {a : Nfa} (h : (a.L < 1 ∨ 6 < a.L) ∨ (a.n < 1 ∨ 40 < a.n)) : nchk a = 1 := by unfold nchk; rw [if_pos h]
theorem nchk_len {a : Nfa} (h : ¬ ((a.L < 1 ∨ 6 < a.L) ∨ (a.n < 1 ∨ 40 < a.n))) (h2 : (40 < a.st.length ∨ 40 < a.fin.length) ∨ 240 < a.mv.length) : nchk a = 4 := by unfold nchk; rw [if_neg h, if_pos h2]
theorem nchk_bad {a : Nfa} (h : ¬ ((a.L < 1 ∨ 6 < a.L) ∨ (a.n < 1 ∨ 40 < a.n))) (h2 : ¬ ((40 < a.st.length ∨ 40 < a.fin.length) ∨ 240 < a.mv.length)) (h3 : ¬ ((∀ x ∈ a.st, isQ a x) ∧ (∀ x ∈ a.fin, isQ a x) ∧ ∀ m ∈ a.mv, isMv a m)) : nchk a = 1 := by
  unfold nchk; rw [if_neg h, if_neg h2, if_neg h3]
theorem nchk_ok {a : Nfa} (h : ¬ ((a.L < 1 ∨ 6 < a.L) ∨ (a.n < 1 ∨ 40 < a.n))) (h2 : ¬ ((40 < a.st.length ∨ 40 < a.fin.length) ∨ 240 < a.mv.length)) (h3 : (∀ x ∈ a.st, isQ a x) ∧ (∀ x ∈ a.fin, isQ a x) ∧ ∀ m ∈ a.mv, isMv a m) : nchk a = 0 := by
  unfold nchk; rw [if_neg h, if_neg h2, if_pos h3]
theorem any_none {a : Nfa} {l : List Int} {n : Int} (e : a.n = n) : (l.any fun x => !decide (0 ≤ x ∧ x < n)) = false ↔ ∀ x ∈ l, isQ a x := by
  subst e
  rw [List.any_eq_false]
  unfold isQ
  simp
set_option maxRecDepth 100000 in
set_option maxHeartbeats 4000000 in
theorem ncheck_any (v : Value) (a : Nfa) (w : World) (h : NfaAt w w.heap.size v a) :
    Calls Tryz.prog 37 #[v] w fun e w' => Hid (e = .returned (errV (nchk a))) ∧ Below w.heap.size w w' := by
  obtain ⟨L, n, A, c, M, cm, F, cf, rfl, h⟩ := h
  obtain ⟨w1, hw1, hB1, hs1, hX, hd1⟩ := box_nfa w h
  have HB := Lib.hid hB1
  have HW := Lib.hid hw1
  have HX := Lib.hid hX
  have hk1 : a.st.length ≤ 9223372036854775807 := Nat.le_trans h.hc h.hc2
  have hk2 : a.mv.length ≤ 9223372036854775807 := Nat.le_trans h.hm h.hm2
  have hk3 : a.fin.length ≤ 9223372036854775807 := Nat.le_trans h.hf h.hf2
  have heL := h.eL
  have hen := h.en
  by_cases g1 : (L < 1 ∨ 6 < L) ∨ (n < 1 ∨ 40 < n)
  · have HR : Hid (nchk a = 1) := nchk_range (by rw [heL, hen]; exact g1)
    clear h hd1 hw1 hX hB1 hs1 heL hen HX
    generalize a.st.length = ks at *
    generalize a.mv.length = km at *
    generalize a.fin.length = kf at *
    have g1' : L < 1 ∨ (1 ≤ L ∧ 6 < L) ∨ (1 ≤ L ∧ L ≤ 6 ∧ n < 1) ∨ (1 ≤ L ∧ L ≤ 6 ∧ 1 ≤ n ∧ 40 < n) := by omega
    clear g1
    rcases g1' with g | ⟨ga, g⟩ | ⟨ga, gb, g⟩ | ⟨ga, gb, gc, g⟩
    all_goals
      go_enter Tryz.func37, Tryz.ntmps37
      go_wp2
      go_ret
      exact ⟨by rw [HR.out]; rfl, by rw [← HW.out]; exact HB.out⟩
  · obtain ⟨p1, p2, p3, p4⟩ : 1 ≤ L ∧ L ≤ 6 ∧ 1 ≤ n ∧ n ≤ 40 := by omega
    have G1 : Hid (¬ ((a.L < 1 ∨ 6 < a.L) ∨ (a.n < 1 ∨ 40 < a.n))) := by rw [Hid, heL, hen]; exact g1
    by_cases g2 : (40 < a.st.length ∨ 40 < a.fin.length) ∨ 240 < a.mv.length
    · have HR : Hid (nchk a = 4) := nchk_len G1.out g2
      clear h hd1 hw1 hX hB1 hs1 heL hen g1 HX
      generalize a.st.length = ks at *
      generalize a.mv.length = km at *
      generalize a.fin.length = kf at *
      have g2' : 40 < ks ∨ (ks ≤ 40 ∧ 40 < kf) ∨ (ks ≤ 40 ∧ kf ≤ 40 ∧ 240 < km) := by omega
      clear g2
      rcases g2' with g | ⟨ga, g⟩ | ⟨ga, gb, g⟩
      all_goals
        go_enter Tryz.func37, Tryz.ntmps37
        go_wp2
        go_ret
        exact ⟨by rw [HR.out]; rfl, by rw [← HW.out]; exact HB.out⟩
    · obtain ⟨q1, q2, q3⟩ : a.st.length ≤ 40 ∧ a.fin.length ≤ 40 ∧ a.mv.length ≤ 240 := by omega
      have G2 := Lib.hid g2
      have HN := Lib.hid hd1
      have HS := Lib.hid (hasf_any 67 none_call (.pointer (some ⟨w.heap.size, 0, none⟩)) A c a.st (fun x => !decide (0 ≤ x ∧ x < n)) w1 hd1.st (by omega) (fun x _ W hW => none_any (hX.on hW) x))
      have HF := Lib.hid (fun W (hW : Below w1.heap.size w1 W) => hasf_any 67 none_call (.pointer (some ⟨w.heap.size, 0, none⟩)) F cf a.fin (fun x => !decide (0 ≤ x ∧ x < n)) W (hd1.fin.on hW) (by omega) (fun x _ W2 hW2 => none_any ((hX.on hW).on hW2) x))
      have HI := Lib.hid (fun x W => isN_any L n A M F a.st.length c a.mv.length cm a.fin.length cf x W _ rfl)
      have HA1 : Hid ((a.st.any fun x => !decide (0 ≤ x ∧ x < n)) = false ↔ ∀ x ∈ a.st, isQ a x) := any_none hen
      have HA2 : Hid ((a.fin.any fun x => !decide (0 ≤ x ∧ x < n)) = false ↔ ∀ x ∈ a.fin, isQ a x) := any_none hen
      have HE : Hid (a.L = L ∧ a.n = n) := ⟨heL, hen⟩
      have HOk : Hid ((∀ x ∈ a.st, isQ a x) → (∀ x ∈ a.fin, isQ a x) → (∀ m ∈ a.mv, isMv a m) → nchk a = 0) := fun k1 k2 k3 => nchk_ok G1.out G2.out ⟨k1, k2, k3⟩
      have HBad : Hid (¬ ((∀ x ∈ a.st, isQ a x) ∧ (∀ x ∈ a.fin, isQ a x) ∧ ∀ m ∈ a.mv, isMv a m) → nchk a = 1) := fun k => nchk_bad G1.out G2.out k
      clear G1 G2 h hd1 hw1 hX hB1 hs1 heL hen g1 g2
      generalize hx1 : (a.st.any fun x => !decide (0 ≤ x ∧ x < n)) = r1 at *
      generalize hx2 : (a.fin.any fun x => !decide (0 ≤ x ∧ x < n)) = r2 at *
      clear hx1 hx2
      generalize hl1 : a.st.length = ks at *
      generalize hl2 : a.mv.length = km at *
      generalize hl3 : a.fin.length = kf at *
      have HLen : Hid (a.mv.length = km) := hl2
      clear hl1 hl2 hl3
      have hc0 := HX.out.c0
      have hc1 := HX.out.c1
      have hc2 := HX.out.c2
      have hc3 := HX.out.c3
      have hc4 := HX.out.c4
      go_enter Tryz.func37, Tryz.ntmps37
      go_wp2_with fail
      rw [← HW.out]
      clear HW
      refine HS.out.mono ?_
      rintro e w2 ⟨rfl, hb⟩
      have HX2 := Lib.hid (HX.out.on hb)
      have HB2 := Lib.hid (HB.out.trans (hb.mono HB.out.size))
      have HF2 := Lib.hid (HF.out _ hb)
      have HN2 := Lib.hid (HN.out.on hb)
      clear hb HS HF HX HN HB hc0 hc1 hc2 hc3 hc4
      rcases r1 with _ | _
      · as_aux_lemma =>
        have hc4 := HX2.out.c4
        go_wp2_with fail
        refine HF2.out.mono ?_
        rintro e w3 ⟨rfl, hb⟩
        have HX3 := Lib.hid (HX2.out.on hb)
        have HB3 := Lib.hid (HB2.out.trans (hb.mono HB2.out.size))
        have HN3 := Lib.hid (HN2.out.on hb)
        clear hb HF2 HX2 HN2 HB2 hc4
        have hc3 := HX3.out.c3
        rcases r2 with _ | _
        · as_aux_lemma =>
          have HT : Hid ((∀ m ∈ a.mv, isMv a m) → nchk a = 0) := fun k => HOk.out (HA1.out.1 (by first | rfl | trivial)) (HA2.out.1 (by first | rfl | trivial)) k
          have HF : Hid (∀ m ∈ a.mv, ¬ isMv a m → nchk a = 1) := fun m hm k => HBad.out fun q => k (q.2.2 m hm)
          have HY : Hid (∀ m ∈ a.mv.take 0, isMv a m) := by simp [Hid]
          have HB0 : Hid (Below w3.heap.size w3 w3) := Below.refl _ _
          clear HA1 HA2 HOk HBad
          go_wp2
          clear hc3
          go_loopw [57] (fun i wr => ∃ (k : Nat), k ≤ km ∧ i = .int .i64 k ∧ Hid (Below w3.heap.size w3 wr) ∧ Hid (∀ m ∈ a.mv.take k, isMv a m)) (fun i _ => km - (intOf i).toNat)
          case atStart => exact ⟨0, by omega, rfl, HB0, HY⟩
          case round =>
            clear HY HB0
            obtain ⟨k, hk, rfl, HBr, HU⟩ := hrel
            by_cases hlt : k < km
            · have hlt' : k < a.mv.length := by rw [HLen.out]; exact hlt
              obtain ⟨ad, e, hadb, m0, m1, m2⟩ := (HN3.out.mv.on HBr.out).at_ (List.getElem?_eq_getElem hlt')
              subst e
              have HMem := Lib.hid (List.getElem_mem hlt')
              have HUn := Lib.hid (fun hp => all_take_succ HU.out hlt' hp)
              obtain ⟨⟨x, y, z⟩, hq⟩ : ∃ q, q = a.mv[k] := ⟨_, rfl⟩
              rw [← hq] at m0 m1 m2 HMem HUn
              simp only at m0 m1 m2
              have HXr := Lib.hid (HX3.out.on HBr.out)
              have HXa := Lib.hid (HXr.out.on (below_alloc wr (.cells #[.int .i64 x, .int .i64 y, .int .i64 z] 85)))
              have HBa := Lib.hid (HBr.out.trans ((below_alloc wr (.cells #[.int .i64 x, .int .i64 y, .int .i64 z] 85)).mono HBr.out.size))
              have hc0 := HXr.out.c0
              have hc1 := HXr.out.c1
              have hc2 := HXr.out.c2
              have hc3 := HXr.out.c3
              have hc4 := HXr.out.c4
              clear hq hlt'
              have hgl := HXr.out.lt
              go_wp2_with fail
              have hn0 : (wr.alloc (.cells #[.int .i64 x, .int .i64 y, .int .i64 z] 85)).cell? ⟨wr.heap.size, 0, none⟩ = some (.int .i64 x) := box_cell wr _ _ 0
              have hn1 : (wr.alloc (.cells #[.int .i64 x, .int .i64 y, .int .i64 z] 85)).cell? ⟨wr.heap.size, 1, none⟩ = some (.int .i64 y) := box_cell wr _ _ 1
              have hn2 : (wr.alloc (.cells #[.int .i64 x, .int .i64 y, .int .i64 z] 85)).cell? ⟨wr.heap.size, 2, none⟩ = some (.int .i64 z) := box_cell wr _ _ 2
              have hgn : wr.heap.size < (wr.alloc (.cells #[.int .i64 x, .int .i64 y, .int .i64 z] 85)).heap.size := by simp
              generalize (wr.alloc (.cells #[.int .i64 x, .int .i64 y, .int .i64 z] 85)) = wa at *
              generalize wr.heap.size = gm at *
              clear m0 m1 m2 hc0 hc1 hc2 hc3 hc4 hgl hadb
              have HIx := Lib.hid (HI.out x wa)
              have hXl := HXa.out.lt
              have hc0 := HXa.out.c0
              have hc1 := HXa.out.c1
              have hc2 := HXa.out.c2
              have hc3 := HXa.out.c3
              have hc4 := HXa.out.c4
              by_cases d1 : 0 ≤ x ∧ x < n
              · rw [decide_eq_true d1] at HIx
                refine HIx.out.mono ?_
                rintro e w4 ⟨rfl, hb⟩
                have HX4 := Lib.hid (HXa.out.on hb)
                have HB4 := Lib.hid (HBa.out.trans (hb.mono HBa.out.size))
                have hm0 := (hb.cell (p := ⟨gm, 0, none⟩) hgn).trans hn0
                have hm1 := (hb.cell (p := ⟨gm, 1, none⟩) hgn).trans hn1
                have hm2 := (hb.cell (p := ⟨gm, 2, none⟩) hgn).trans hn2
                have hgl4 : gm < w4.heap.size := Nat.lt_of_lt_of_le hgn hb.size
                have HIz := Lib.hid (HI.out z w4)
                clear hb HIx hc0 hc1 hc2 hc3 hc4 hn0 hn1 hn2 HXa HBa
                have hc0 := HX4.out.c0
                have hc1 := HX4.out.c1
                have hc2 := HX4.out.c2
                have hc3 := HX4.out.c3
                have hc4 := HX4.out.c4
                go_wp2_with fail
                by_cases d2 : 0 ≤ z ∧ z < n
                · rw [decide_eq_true d2] at HIz
                  refine HIz.out.mono ?_
                  rintro e w5 ⟨rfl, hb⟩
                  have HX5 := Lib.hid (HX4.out.on hb)
                  have HB5 := Lib.hid (HB4.out.trans (hb.mono HB4.out.size))
                  have hm1' := (hb.cell (p := ⟨gm, 1, none⟩) hgl4).trans hm1
                  clear hb HIz hc0 hc1 hc2 hc3 hc4 hm0 hm1 hm2 HX4 HB4
                  have hc0 := HX5.out.c0
                  have d3 : y < -1 ∨ (-1 ≤ y ∧ L ≤ y) ∨ (-1 ≤ y ∧ y < L) := by omega
                  rcases d3 with d3 | ⟨d3, d4⟩ | ⟨d3, d4⟩
                  · have HR : Hid (nchk a = 1) := HF.out _ HMem.out fun q => by have := q.2.2.1; simp only at this; omega
                    have HB6 := Lib.hid (HB3.out.trans (HB5.out.mono HB3.out.size))
                    go_wp2
                    go_ret
                    exact ⟨by rw [HR.out]; rfl, HB6.out⟩
                  · have HR : Hid (nchk a = 1) := HF.out _ HMem.out fun q => by have := q.2.2.2; rw [HE.out.1] at this; simp only at this; omega
                    have HB6 := Lib.hid (HB3.out.trans (HB5.out.mono HB3.out.size))
                    go_wp2
                    go_ret
                    exact ⟨by rw [HR.out]; rfl, HB6.out⟩
                  · have HU2 := Lib.hid (HUn.out ⟨by unfold isQ; rw [HE.out.2]; exact d1, by unfold isQ; rw [HE.out.2]; exact d2, d3, by rw [HE.out.1]; exact d4⟩)
                    go_wp2
                    go_roundw
                    case rel => exact ⟨k + 1, by omega, by go_num, HB5, HU2⟩
                    case measure => simp [intOf]; omega
                · rw [decide_eq_false d2] at HIz
                  have HR : Hid (nchk a = 1) := HF.out _ HMem.out fun q => by have := q.2.1; unfold isQ at this; rw [HE.out.2] at this; exact d2 this
                  refine HIz.out.mono ?_
                  rintro e w5 ⟨rfl, hb⟩
                  have HB5 := Lib.hid (HB3.out.trans ((HB4.out.trans (hb.mono HB4.out.size)).mono HB3.out.size))
                  clear hb HIz d2
                  go_wp2
                  go_ret
                  exact ⟨by rw [HR.out]; rfl, HB5.out⟩
              · rw [decide_eq_false d1] at HIx
                have HR : Hid (nchk a = 1) := HF.out _ HMem.out fun q => by have := q.1; unfold isQ at this; rw [HE.out.2] at this; exact d1 this
                refine HIx.out.mono ?_
                rintro e w4 ⟨rfl, hb⟩
                have HB5 := Lib.hid (HB3.out.trans ((HBa.out.trans (hb.mono HBa.out.size)).mono HB3.out.size))
                clear hb HIx d1
                go_wp2
                go_ret
                exact ⟨by rw [HR.out]; rfl, HB5.out⟩
            · have HR := Lib.hid (HT.out (all_take_end HU.out (by rw [HLen.out]; omega)))
              have HB5 := Lib.hid (HB3.out.trans (HBr.out.mono HB3.out.size))
              go_wp2
              go_ret
              exact ⟨by rw [HR.out]; rfl, HB5.out⟩
        · as_aux_lemma =>
          have HR : Hid (nchk a = 1) := HBad.out fun q => by have h9 := HA2.out.2 q.2.1; first | cases h9 | exact h9.elim | simp at h9
          go_wp2
          go_ret
          exact ⟨by rw [HR.out]; rfl, HB3.out⟩
      · as_aux_lemma =>
        have HR : Hid (nchk a = 1) := HBad.out fun q => by have h9 := HA1.out.2 q.1; first | cases h9 | exact h9.elim | simp at h9
        go_wp2
        go_ret
        exact ⟨by rw [HR.out]; rfl, HB2.out⟩
end Go.Proofs.YtloihkoamccacaaGreatDoor.Nf
