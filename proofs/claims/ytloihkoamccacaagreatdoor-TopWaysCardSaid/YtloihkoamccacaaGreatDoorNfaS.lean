/- The walks of package nfa: sets as numbers, Accepts. -/
import Derived.Test.YtloihkoamccacaaGreatDoorNfaW
namespace Go.Proofs.YtloihkoamccacaaGreatDoor.Nf
open Go.RowKit Go.IntWalk Go.Proofs.YtloihkoamccacaaGreatDoor.Wd Go.Proofs.YtloihkoamccacaaGreatDoor.Wo Go.Proofs.YtloihkoamccacaaGreatDoor.Df

theorem or_pow {z s : Nat} (hz : z < 1099511627776) (hs : s < 40) : Go.bits .or .u64 (z : Int) (IntKind.u64.wrap ((2 : Int) ^ s)) = ((z ||| 2 ^ s : Nat) : Int) := by
  have hp := pow_lt hs
  have e : IntKind.u64.wrap ((2 : Int) ^ s) = ((2 ^ s : Nat) : Int) := by
    rw [IntKind.wrap_u64, show ((2 : Int) ^ s) = ((2 ^ s : Nat) : Int) by push_cast; rfl]
    generalize (2 : Nat) ^ s = p at *
    omega
  rw [e]
  exact bits_or_u64_nat _ _ (by omega) (by omega)
theorem shr_bit {X : List Nat} (hX : ∀ t ∈ X, t < 40) (s : Nat) : (Go.bits .and .u64 (((enc X : Nat) : Int) / 2 ^ s) 1 == 1) = decide (s ∈ X) := by
  have h := enc_lt hX
  have e : (((enc X : Nat) : Int) / 2 ^ s) = ((enc X / 2 ^ s : Nat) : Int) := by rw [Int.natCast_ediv, Int.natCast_pow]; rfl
  have hd : enc X / 2 ^ s ≤ enc X := Nat.div_le_self _ _
  have e1 : (1 : Int) = ((1 : Nat) : Int) := rfl
  rw [e, e1, bits_and_u64_nat _ _ (by omega) (by omega), Nat.and_one_is_mod, enc_shift]
  by_cases hs : s ∈ X <;> simp [hs]
set_option maxRecDepth 100000 in
set_option maxHeartbeats 1000000 in
theorem setOf_any (A : Option Addr) (c : Nat) (l : List Int) (w : World) (hA : IntsAt w w.heap.size A l) (hl : l.length ≤ 1099511627776) (h40 : ∀ x ∈ l, 0 ≤ x ∧ x < 40) :
    Calls Tryz.prog 39 #[.slice A l.length c] w fun e w' => e = .returned (.int .u64 ((enc (l.map Int.toNat) : Nat) : Int)) ∧ w' = w := by
  have HA := Lib.hid hA
  have H40 := Lib.hid h40
  clear hA h40
  go_enter Tryz.func39, Tryz.ntmps39
  go_wp2
  go_loopw [3, 8] (fun u i wr => ∃ (k : Nat) (z : Nat), k ≤ l.length ∧ i = .int .i64 k ∧ u = .int .u64 (z : Int) ∧ wr = w ∧ Hid (z = enc ((l.take k).map Int.toNat))) (fun _ i _ => l.length - (intOf i).toNat)
  case atStart => exact ⟨0, 0, by omega, rfl, rfl, rfl, rfl⟩
  case round =>
    obtain ⟨k, z, hk, rfl, rfl, rfl, HZ⟩ := hrel
    by_cases hlt : k < l.length
    · obtain ⟨ad, e, hadb, hcell, _⟩ := HA.out.get (List.getElem?_eq_getElem hlt)
      subst e
      obtain ⟨h0, h4⟩ := H40.out l[k] (List.getElem_mem hlt)
      obtain ⟨s, hs⟩ := Int.eq_ofNat_of_zero_le h0
      have hz : z < 1099511627776 := by
        rw [HZ.out]
        refine enc_lt fun t ht => ?_
        obtain ⟨y, hy, rfl⟩ := List.mem_map.1 ht
        have := H40.out y (List.mem_of_mem_take hy)
        omega
      have HN : Hid (z ||| 2 ^ s = enc ((l.take (k + 1)).map Int.toNat)) := by
        rw [Hid, ← List.take_append_getElem hlt, List.map_append, List.map_singleton, enc_snoc, ← HZ.out, hs]; rfl
      rw [hs] at hcell h4
      have HO := Lib.hid (or_pow hz (show s < 40 by omega))
      clear hs
      go_wp2
      go_roundw
      case rel => exact ⟨k + 1, z ||| 2 ^ s, by omega, by go_num, by rw [HO.out], by first | rfl | trivial, HN⟩
      case measure => simp [intOf]; omega
    · have HR : Hid (z = enc (l.map Int.toNat)) := by rw [Hid, HZ.out, List.take_of_length_le (by omega)]
      go_wp2
      go_ret
      exact ⟨by rw [← HR.out]; rfl, rfl⟩

/-! ### moved -/
def toK (a : Nfa) (X : List Nat) (c : Int) (k : Nat) : List Nat := ((a.mv.take k).filter fun m => decide (m.2.1 = c) && decide (m.1.toNat ∈ X)).map fun m => m.2.2.toNat
theorem toK_all {a : Nfa} {X : List Nat} {c : Int} {k : Nat} (h : a.mv.length ≤ k) : toK a X c k = to a X c := by unfold toK to; rw [List.take_of_length_le h]
theorem toK_hit {a : Nfa} {X : List Nat} {c : Int} {k : Nat} (h : k < a.mv.length) (h1 : a.mv[k].2.1 = c) (h2 : a.mv[k].1.toNat ∈ X) : toK a X c (k + 1) = toK a X c k ++ [a.mv[k].2.2.toNat] := by
  unfold toK
  rw [← List.take_append_getElem h, List.filter_append, List.map_append]
  simp [h1, h2]
theorem toK_miss {a : Nfa} {X : List Nat} {c : Int} {k : Nat} (h : k < a.mv.length) (h1 : ¬ (a.mv[k].2.1 = c ∧ a.mv[k].1.toNat ∈ X)) : toK a X c (k + 1) = toK a X c k := by
  unfold toK
  rw [← List.take_append_getElem h, List.filter_append, List.map_append]
  have : ([a.mv[k]].filter fun m => decide (m.2.1 = c) && decide (m.1.toNat ∈ X)) = [] := by
    rw [List.filter_cons, if_neg (by simpa using h1)]; rfl
  rw [this]; simp
theorem toK_lt {a : Nfa} (g : Good a) {X : List Nat} {c : Int} {k : Nat} : ∀ t ∈ toK a X c k, t < 40 := fun t ht => by
  obtain ⟨m, hm, rfl⟩ := List.mem_map.1 ht
  have := (g.mv m (List.mem_of_mem_take (List.mem_filter.1 hm).1)).2.1
  have h1 := this.1; have h2 := this.2; have := g.n40
  omega
set_option maxRecDepth 100000 in
set_option maxHeartbeats 2000000 in
theorem moved_any (v : Value) (a : Nfa) (X : List Nat) (c : Int) (w : World) (h : NfaAt w w.heap.size v a) (hg : Good a) (hX : ∀ t ∈ X, t < 40) :
    Calls Tryz.prog 71 #[v, .int .u64 ((enc X : Nat) : Int), .int .i64 c] w fun e w' => e = .returned (.int .u64 ((enc (to a X c) : Nat) : Int)) ∧ Below w.heap.size w w' := by
  obtain ⟨L, n, A, ca, M, cm, F, cf, rfl, h⟩ := h
  obtain ⟨w1, hw1, hB1, hs1, hX1, hd1⟩ := box_nfa w h
  have HB := Lib.hid hB1
  have HW := Lib.hid hw1
  have HM := Lib.hid hd1.mv
  have HG := Lib.hid hg
  have HX := Lib.hid hX
  have hm240 : a.mv.length ≤ 240 := hg.m240
  have HE : Hid (enc (toK a X c 0) = 0) := by unfold toK; simp [Hid, enc_nil]
  have HEnd : Hid (∀ k, a.mv.length ≤ k → toK a X c k = to a X c) := fun k hk => toK_all hk
  have HBit := Lib.hid (fun s => shr_bit hX s)
  have hex := enc_lt hX
  have hc3 := hX1.c3
  clear h hw1 hB1 hs1 hX1 hd1 hg hX
  generalize hl : a.mv.length = km at *
  have HLen := Lib.hid hl
  clear hl
  generalize enc X = ex at *
  generalize a.st.length = ks at *
  generalize a.fin.length = kf at *
  go_enter Tryz.func71, Tryz.ntmps71
  go_wp2_with fail
  rw [← HW.out]
  clear HW hc3
  have HB0 : Hid (Below w1.heap.size w1 w1) := Below.refl _ _
  go_loopw [7, 13] (fun u i wr => ∃ (k : Nat) (z : Nat), k ≤ km ∧ i = .int .i64 k ∧ u = .int .u64 (z : Int) ∧ Hid (Below w1.heap.size w1 wr) ∧ Hid (z = enc (toK a X c k))) (fun _ i _ => km - (intOf i).toNat)
  case atStart => exact ⟨0, 0, by omega, rfl, rfl, HB0, HE.out.symm⟩
  case round =>
    clear HE HB0
    obtain ⟨k, z, hk, rfl, rfl, HBr, HZ⟩ := hrel
    by_cases hlt : k < km
    · have hlt' : k < a.mv.length := by rw [HLen.out]; exact hlt
      obtain ⟨ad, e, hadb, m0, m1, m2⟩ := (HM.out.on HBr.out).at_ (List.getElem?_eq_getElem hlt')
      subst e
      have hgm := HG.out.mv _ (List.getElem_mem hlt')
      have HHit := Lib.hid (fun h1 h2 => toK_hit (X := X) (c := c) hlt' h1 h2)
      have HMiss := Lib.hid (fun h1 => toK_miss (X := X) (c := c) hlt' h1)
      obtain ⟨⟨x, y, t⟩, hq⟩ : ∃ q, q = a.mv[k] := ⟨_, rfl⟩
      rw [← hq] at m0 m1 m2 hgm HHit HMiss
      simp only at m0 m1 m2
      obtain ⟨⟨x0, x1⟩, ⟨t0, t1⟩, _, _⟩ := hgm
      simp only at x0 x1 t0 t1
      have hn40 := HG.out.n40
      obtain ⟨xn, hxn⟩ := Int.eq_ofNat_of_zero_le x0
      obtain ⟨tn, htn⟩ := Int.eq_ofNat_of_zero_le t0
      subst hxn
      subst htn
      have hx4 : xn < 40 := by omega
      have ht4 : tn < 40 := by omega
      clear hq hlt' x0 x1 t0 t1 hn40
      have hz : z < 1099511627776 := by rw [HZ.out]; exact enc_lt (toK_lt HG.out)
      have HBa := Lib.hid (HBr.out.trans ((below_alloc wr (.cells #[.int .i64 (xn : Int), .int .i64 y, .int .i64 (tn : Int)] 85)).mono HBr.out.size))
      by_cases d1 : y = c
      · have e1 := int_eq d1
        by_cases d2 : xn ∈ X
        · have e2 := HBit.out xn
          rw [decide_eq_true d2] at e2
          have HN : Hid (z ||| 2 ^ tn = enc (toK a X c (k + 1))) := by
            rw [Hid, HHit.out d1 (by simpa using d2), enc_snoc, ← HZ.out]; rfl
          have HO := Lib.hid (or_pow hz ht4)
          clear d1 d2
          go_wp2
          go_roundw
          case rel => exact ⟨k + 1, z ||| 2 ^ tn, by omega, by go_num, by rw [HO.out], HBa, HN⟩
          case measure => simp [intOf]; omega
        · have e2 := HBit.out xn
          rw [decide_eq_false d2] at e2
          have HN : Hid (z = enc (toK a X c (k + 1))) := by
            rw [Hid, HMiss.out (fun q => d2 (by simpa using q.2)), HZ.out]
          clear d1 d2
          go_wp2
          go_roundw
          case rel => exact ⟨k + 1, z, by omega, by go_num, rfl, HBa, HN⟩
          case measure => simp [intOf]; omega
      · have e1 := int_ne d1
        have HN : Hid (z = enc (toK a X c (k + 1))) := by
          rw [Hid, HMiss.out (fun q => d1 q.1), HZ.out]
        clear d1
        go_wp2
        go_roundw
        case rel => exact ⟨k + 1, z, by omega, by go_num, rfl, HBa, HN⟩
        case measure => simp [intOf]; omega
    · have HR : Hid (z = enc (to a X c)) := by rw [Hid, HZ.out, HEnd.out k (by omega)]
      have HB2 := Lib.hid (HB.out.trans (HBr.out.mono HB.out.size))
      go_wp2
      go_ret
      exact ⟨by rw [← HR.out]; rfl, HB2.out⟩

/-! ### closed, first, next -/
set_option maxRecDepth 100000 in
set_option maxHeartbeats 2000000 in
theorem closed_any (v : Value) (a : Nfa) (X : List Nat) (w : World) (h : NfaAt w w.heap.size v a) (hg : Good a) (hX : ∀ t ∈ X, t < a.n.toNat) :
    Calls Tryz.prog 70 #[v, .int .u64 ((enc X : Nat) : Int)] w fun e w' => e = .returned (.int .u64 ((enc (clo a X) : Nat) : Int)) ∧ Below w.heap.size w w' := by
  have HV := h
  obtain ⟨L, n, A, ca, M, cm, F, cf, rfl, h⟩ := h
  obtain ⟨w1, hw1, hB1, hs1, hX1, hd1⟩ := box_nfa w h
  have HB := Lib.hid hB1
  have HW := Lib.hid hw1
  have HN := Lib.hid (HV.on hB1)
  have HG := Lib.hid hg
  have HX := Lib.hid hX
  have HB0 : Hid (Below w1.heap.size w1 w1) := Below.refl _ _
  have HBox := Lib.hid hX1
  have HS : Hid (∃ K, enc X = enc K ∧ (∀ t ∈ K, t ∈ clo a X) ∧ ∀ t ∈ X, t ∈ K) := ⟨X, rfl, clo_self hg hX, fun _ h => h⟩
  clear h hw1 hB1 hs1 hX1 hd1 hg hX HV
  generalize enc X = ex at *
  generalize a.st.length = ks at *
  generalize a.mv.length = km at *
  generalize a.fin.length = kf at *
  go_enter Tryz.func70, Tryz.ntmps70
  go_wp2
  rw [← HW.out]
  clear HW
  go_loopw [1] (fun u wr => ∃ z : Nat, u = .int .u64 (z : Int) ∧ Hid (Below w1.heap.size w1 wr) ∧ Hid (∃ K, z = enc K ∧ (∀ t ∈ K, t ∈ clo a X) ∧ ∀ t ∈ X, t ∈ K)) (fun u _ => 1099511627776 - (intOf u).toNat)
  case atStart => exact ⟨ex, rfl, HB0, HS⟩
  case round =>
    clear HS HB0
    obtain ⟨z, rfl, HBr, HK⟩ := hrel
    obtain ⟨K, hz, hk1, hk2⟩ := HK.out
    have hK40 : ∀ t ∈ K, t < 40 := lt40 HG.out fun t ht => clo_lt (hk1 t ht)
    have hb := HBox.out.on HBr.out
    have hc0 := hb.c0
    have hc1 := hb.c1
    have hc2 := hb.c2
    have hc3 := hb.c3
    have hc4 := hb.c4
    have HC := Lib.hid (moved_any _ a K (-1) wr (HN.out.on HBr.out) HG.out hK40)
    rw [← hz] at HC
    have hto : ∀ t ∈ to a K (-1), t < 40 := lt40 HG.out fun t ht => to_lt HG.out ht
    have hm : enc (K ++ to a K (-1)) = z ||| enc (to a K (-1)) := by rw [enc_append, ← hz]
    have hz40 : z < 1099511627776 := by rw [hz]; exact enc_lt hK40
    have ht40 : enc (to a K (-1)) < 1099511627776 := enc_lt hto
    have hor := bits_or_u64_nat z (enc (to a K (-1))) (by omega) (by omega)
    have hmore : enc (K ++ to a K (-1)) < 1099511627776 := enc_lt fun t ht => (List.mem_append.1 ht).elim (hK40 t) (hto t)
    have hle : z ≤ z ||| enc (to a K (-1)) := Nat.left_le_or
    have HN1 : Hid (∃ K', z ||| enc (to a K (-1)) = enc K' ∧ (∀ t ∈ K', t ∈ clo a X) ∧ ∀ t ∈ X, t ∈ K') :=
      ⟨K ++ to a K (-1), hm.symm, fun t ht => (List.mem_append.1 ht).elim (hk1 t) (clo_more HG.out HX.out hk1 t), fun t ht => List.mem_append_left _ (hk2 t ht)⟩
    have HN2 : Hid (z ||| enc (to a K (-1)) = z → z = enc (clo a X)) := fun q => by
      rw [hz]
      refine clo_fix HG.out HX.out hk1 hk2 fun t ht => ?_
      have h9 : enc (K ++ to a K (-1)) = enc K := by rw [hm, q, hz]
      exact (enc_mem h9 t).1 (List.mem_append_right _ ht)
    rw [hm] at hmore
    clear hz hk1 hk2 hK40 hto hm HK hb ht40
    generalize enc (to a K (-1)) = y at *
    generalize hq : z ||| y = q at *
    have HQ := Lib.hid hq
    clear hq
    go_wp2_with fail
    refine HC.out.mono ?_
    rintro e w4 ⟨rfl, hb⟩
    have HB4 := Lib.hid (HBr.out.trans (hb.mono HBr.out.size))
    clear hb HC hc0 hc1 hc2 hc3 hc4
    by_cases hqz : q = z
    · have HR := Lib.hid (HN2.out hqz)
      have HB5 := Lib.hid (HB.out.trans (HB4.out.mono HB.out.size))
      have e1 := int_eq (show (q : Int) = (z : Int) by omega)
      clear hqz
      go_wp2
      go_ret
      exact ⟨by rw [← HR.out]; rfl, HB5.out⟩
    · have e1 := int_ne (show ¬ (q : Int) = (z : Int) by omega)
      go_wp2
      go_roundw
      case rel => exact ⟨q, rfl, HB4, HN1⟩
      case measure => simp [intOf]; omega
theorem box_agg {w : World} {g : Nat} {L n : Int} {A M F : Option Addr} {k c km cm kf cf : Nat} (h : BoxN w g L n A k c M km cm F kf cf) :
    w.cell? ⟨g, 0, none⟩ = some (.int .i64 L) ∧ w.cell? ⟨g, 1, none⟩ = some (.int .i64 n) ∧ w.cell? ⟨g, 2, none⟩ = some (.slice A k c) ∧ w.cell? ⟨g, 3, none⟩ = some (.slice M km cm) ∧ w.cell? ⟨g, 4, none⟩ = some (.slice F kf cf) := ⟨h.c0, h.c1, h.c2, h.c3, h.c4⟩
theorem st40 {a : Nfa} (g : Good a) : ∀ x ∈ a.st, 0 ≤ x ∧ x < 40 := fun x hx => by
  have h1 := g.st x hx
  have := g.n40
  exact ⟨h1.1, by have := h1.2; omega⟩
theorem fin40 {a : Nfa} (g : Good a) : ∀ x ∈ a.fin, 0 ≤ x ∧ x < 40 := fun x hx => by
  have h1 := g.fin x hx
  have := g.n40
  exact ⟨h1.1, by have := h1.2; omega⟩
set_option maxRecDepth 100000 in
set_option maxHeartbeats 2000000 in
theorem first_any (v : Value) (a : Nfa) (w : World) (h : NfaAt w w.heap.size v a) (hg : Good a) :
    Calls Tryz.prog 43 #[v] w fun e w' => e = .returned (.int .u64 ((enc (beg a) : Nat) : Int)) ∧ Below w.heap.size w w' := by
  have HV := h
  obtain ⟨L, n, A, ca, M, cm, F, cf, rfl, h⟩ := h
  obtain ⟨w1, hw1, hB1, hs1, hX1, hd1⟩ := box_nfa w h
  have HB := Lib.hid hB1
  have HW := Lib.hid hw1
  have HN := Lib.hid (HV.on hB1)
  have HBox := Lib.hid hX1
  have HD : Hid (Below w1.heap.size w1 w1.drew) := (Below.refl _ _).drew
  have HS := Lib.hid (setOf_any A ca a.st w1.drew (hd1.st.on HD.out) (by have := hg.s40; omega) (st40 hg))
  have HC := Lib.hid (closed_any _ a (a.st.map Int.toNat) w1.drew (HN.out.on HD.out) hg fun s hs => st_lt hg hs)
  have HK : Hid (∀ W, Below w1.heap.size w1 W → W.cell? ⟨w.heap.size, 0, none⟩ = some (.int .i64 L) ∧ W.cell? ⟨w.heap.size, 1, none⟩ = some (.int .i64 n) ∧ W.cell? ⟨w.heap.size, 2, none⟩ = some (.slice A a.st.length ca) ∧ W.cell? ⟨w.heap.size, 3, none⟩ = some (.slice M a.mv.length cm) ∧ W.cell? ⟨w.heap.size, 4, none⟩ = some (.slice F a.fin.length cf)) := fun W hW => box_agg (hX1.on hW)
  have HBg : Hid (beg a = clo a (a.st.map Int.toNat)) := rfl
  rw [← HBg.out] at HC
  clear h hw1 hB1 hs1 hX1 hd1 hg HV HBg HBox HN
  generalize enc (a.st.map Int.toNat) = es at *
  generalize enc (beg a) = eb at *
  generalize a.st.length = ks at *
  generalize a.mv.length = km at *
  generalize a.fin.length = kf at *
  go_enter Tryz.func43, Tryz.ntmps43
  go_wp2_with fail
  rw [← HW.out]
  clear HW
  go_region_held3 (fun W => W.cell? ⟨w.heap.size, 0, none⟩ = some (.int .i64 L) ∧ W.cell? ⟨w.heap.size, 1, none⟩ = some (.int .i64 n) ∧ W.cell? ⟨w.heap.size, 2, none⟩ = some (.slice A ks ca) ∧ W.cell? ⟨w.heap.size, 3, none⟩ = some (.slice M km cm) ∧ W.cell? ⟨w.heap.size, 4, none⟩ = some (.slice F kf cf))
    (first | exact HK.out _ HBC.out | exact HK.out _ (Below.refl _ _).drew)
    (first | (go_at_call 39; refine HS.out.mono ?_; rintro e u3 ⟨rfl, rfl⟩) | (go_at_call 70; refine HC.out.mono ?_; rintro e u4 ⟨rfl, hb⟩; have HBC := Lib.hid (HD.out.trans (hb.mono HD.out.size)); clear hb))
  all_goals
    have HB2 := Lib.hid (HB.out.trans (HBC.out.mono HB.out.size))
    clear HBC HK
    go_wp2
    go_ret
    exact ⟨rfl, HB2.out⟩
set_option maxRecDepth 100000 in
set_option maxHeartbeats 2000000 in
theorem next_any (v : Value) (a : Nfa) (X : List Nat) (c : Int) (w : World) (h : NfaAt w w.heap.size v a) (hg : Good a) (hX : ∀ t ∈ X, t < 40) :
    Calls Tryz.prog 41 #[v, .int .u64 ((enc X : Nat) : Int), .int .i64 c] w fun e w' => e = .returned (.int .u64 ((enc (goN a X c) : Nat) : Int)) ∧ Below w.heap.size w w' := by
  have HV := h
  obtain ⟨L, n, A, ca, M, cm, F, cf, rfl, h⟩ := h
  obtain ⟨w1, hw1, hB1, hs1, hX1, hd1⟩ := box_nfa w h
  have HB := Lib.hid hB1
  have HW := Lib.hid hw1
  have HN := Lib.hid (HV.on hB1)
  have HD : Hid (Below w1.heap.size w1 w1.drew) := (Below.refl _ _).drew
  have HM := Lib.hid (moved_any _ a X c w1.drew (HN.out.on HD.out) hg hX)
  have HC := Lib.hid (fun W (hW : Below w1.heap.size w1 W) => closed_any _ a (to a X c) W (HN.out.on hW) hg fun t ht => to_lt hg ht)
  have HK : Hid (∀ W, Below w1.heap.size w1 W → W.cell? ⟨w.heap.size, 0, none⟩ = some (.int .i64 L) ∧ W.cell? ⟨w.heap.size, 1, none⟩ = some (.int .i64 n) ∧ W.cell? ⟨w.heap.size, 2, none⟩ = some (.slice A a.st.length ca) ∧ W.cell? ⟨w.heap.size, 3, none⟩ = some (.slice M a.mv.length cm) ∧ W.cell? ⟨w.heap.size, 4, none⟩ = some (.slice F a.fin.length cf)) := fun W hW => box_agg (hX1.on hW)
  have HBg : Hid (goN a X c = clo a (to a X c)) := rfl
  rw [← HBg.out] at HC
  clear h hw1 hB1 hs1 hX1 hd1 hg HV HBg HN hX
  generalize enc (to a X c) = es at *
  generalize enc (goN a X c) = eb at *
  generalize enc X = ex at *
  generalize a.st.length = ks at *
  generalize a.mv.length = km at *
  generalize a.fin.length = kf at *
  go_enter Tryz.func41, Tryz.ntmps41
  go_wp2_with fail
  rw [← HW.out]
  clear HW
  go_region_held3 (fun W => W.cell? ⟨w.heap.size, 0, none⟩ = some (.int .i64 L) ∧ W.cell? ⟨w.heap.size, 1, none⟩ = some (.int .i64 n) ∧ W.cell? ⟨w.heap.size, 2, none⟩ = some (.slice A ks ca) ∧ W.cell? ⟨w.heap.size, 3, none⟩ = some (.slice M km cm) ∧ W.cell? ⟨w.heap.size, 4, none⟩ = some (.slice F kf cf))
    (first | exact HK.out _ HBC.out | exact HK.out _ HBM.out | exact HK.out _ (Below.refl _ _).drew)
    (first | (go_at_call 71; refine HM.out.mono ?_; rintro e u3 ⟨rfl, hb⟩; have HBM := Lib.hid (HD.out.trans (hb.mono HD.out.size)); clear hb) | (go_at_call 70; refine (HC.out _ HBM.out).mono ?_; rintro e u4 ⟨rfl, hb⟩; have HBC := Lib.hid (HBM.out.trans (hb.mono HBM.out.size)); clear hb))
  all_goals
    have HB2 := Lib.hid (HB.out.trans (HBC.out.mono HB.out.size))
    clear HBC HBM HK
    go_wp2
    go_ret
    exact ⟨rfl, HB2.out⟩

/-! ### Accepts -/
end Go.Proofs.YtloihkoamccacaaGreatDoor.Nf
