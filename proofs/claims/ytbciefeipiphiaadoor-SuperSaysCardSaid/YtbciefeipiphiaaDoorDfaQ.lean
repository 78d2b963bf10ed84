/- The walks of package dfa's products: pairs of states, in the order in which they are found. -/
import Derived.Test.YtbciefeipiphiaaDoorDfaP
import Derived.Laws.StructEq
namespace Go.Proofs.YtbciefeipiphiaaDoor.Df
open Go.RowKit Go.IntWalk Go.Proofs.YtbciefeipiphiaaDoor.Wd Go.Proofs.YtbciefeipiphiaaDoor.Wo

/-! ### rows of pairs -/
def pcells (l : List (Nat × Nat)) : List Value := l.flatMap fun p => [.int .i64 ((p.1 : Nat) : Int), .int .i64 ((p.2 : Nat) : Int)]
def ePairs (v : Value) (l : List (Nat × Nat)) : Ent := ⟨95, 2, v, l.length, pcells l⟩
theorem pcells_append (l m : List (Nat × Nat)) : pcells (l ++ m) = pcells l ++ pcells m := List.flatMap_append
theorem pcells_get : ∀ (l : List (Nat × Nat)) (k : Nat) (p : Nat × Nat), l[k]? = some p → (pcells l)[k * 2]? = some (.int .i64 ((p.1 : Nat) : Int)) ∧ (pcells l)[k * 2 + 1]? = some (.int .i64 ((p.2 : Nat) : Int))
  | [], k, p, h => by simp at h
  | q :: l, 0, p, h => by
    simp only [List.getElem?_cons_zero, Option.some.injEq] at h
    subst h
    exact ⟨rfl, rfl⟩
  | q :: l, k + 1, p, h => by
    rw [List.getElem?_cons_succ] at h
    have := pcells_get l k p h
    have e : pcells (q :: l) = .int .i64 ((q.1 : Nat) : Int) :: .int .i64 ((q.2 : Nat) : Int) :: pcells l := rfl
    rw [e, show (k + 1) * 2 = k * 2 + 1 + 1 by omega]
    simpa using this
def PairsAt (w : World) (B : Nat) (A : Option Addr) (l : List (Nat × Nat)) : Prop := Cells w B A (pcells l)
theorem PairsAt.on {w w' : World} {A : Option Addr} {l : List (Nat × Nat)} (h : PairsAt w w.heap.size A l) (hb : Below w.heap.size w w') : PairsAt w' w'.heap.size A l := (Cells.below h hb).more hb.size
theorem PairsAt.at_ {w : World} {B : Nat} {A : Option Addr} {l : List (Nat × Nat)} (h : PairsAt w B A l) {k : Nat} {p : Nat × Nat} (hk : l[k]? = some p) :
    ∃ ad, A = some ad ∧ ad.block < B ∧ w.cell? (ad.add (k * 2)) = some (.int .i64 ((p.1 : Nat) : Int)) ∧ w.cell? ⟨(ad.add (k * 2)).block, (ad.add (k * 2)).off + 1, none⟩ = some (.int .i64 ((p.2 : Nat) : Int)) := by
  obtain ⟨h1, h2⟩ := pcells_get l k p hk
  obtain ⟨ad, e, h3, h4⟩ := h _ _ h1
  obtain ⟨ad2, e2, _, h6⟩ := h _ _ h2
  obtain rfl := Option.some.inj (e.symm.trans e2)
  exact ⟨ad, e, h3, h4, by rw [← Addr.add_succ' (ad.add (k * 2)) 0, Addr.add_add]; exact h6⟩
theorem own_pairs {w0 w : World} {es fs : List Ent} (h : Own w0 w es fs) {v : Value} {l : List (Nat × Nat)} (he : ePairs v l ∈ es ++ fs) :
    ∃ A cap, v = .slice A l.length cap ∧ l.length ≤ cap ∧ cap ≤ 9223372036854775807 ∧ PairsAt w w.heap.size A l := by
  obtain ⟨A, cap, hv, h1, h2, _⟩ := h.form he
  simp only [ePairs] at hv h1
  subst hv
  unfold maxLen at h2
  exact ⟨A, cap, rfl, h1, h2, h.cells he⟩
theorem notin_take_succ {α : Type} {l : List α} {p : α} {k : Nat} (h : p ∉ l.take k) (hk : k < l.length) (he : ¬ p = l[k]) : p ∉ l.take (k + 1) := by
  rw [← List.take_append_getElem hk]
  intro hm
  rcases List.mem_append.1 hm with hm | hm
  · exact h hm
  · simp at hm; exact he hm
theorem infoPair : (Tryd.prog.info? 95).map (fun i => (i.zero, i.size, i.bytes)) = some (some (.agg #[.int .i64 0, .int .i64 0]), 2, 16) := by kernel_rfl
/-! ### numbered -/
/-! ### checkBoth -/
set_option maxRecDepth 100000 in
set_option maxHeartbeats 1000000 in
theorem chkD2_any (v z : Value) (a b : Aut) (w : World) (ha : DfaAt w w.heap.size v a) (hb : DfaAt w w.heap.size z b) :
    Calls Tryd.prog 47 #[v, z] w fun e w' => Hid (e = .returned (errV (chkD2 a b))) ∧ Below w.heap.size w w' := by
  have HA := ha
  have HZ := hb
  obtain ⟨L, s, A, c, F, cf, rfl, ha⟩ := ha
  obtain ⟨M, t, C, d, G, cg, rfl, hb⟩ := hb
  obtain ⟨w1, hw1, hB1, hX, hd1⟩ := box_dfa w ha
  obtain ⟨w2, hw2, hB2, hY, hd2⟩ := box_dfa w1 (hb.on hB1)
  have hs1 : w1.heap.size = w.heap.size + 1 := by rw [hw1]; simp
  rw [hs1] at hY
  have HB := Lib.hid (hB1.trans (hB2.mono hB1.size))
  have HX := Lib.hid (hX.on hB2)
  have HY := Lib.hid hY
  have HA := Lib.hid (HA.on HB.out)
  have HZ := Lib.hid (HZ.on HB.out)
  have HW : Hid (w2 = (w.alloc (.cells #[.int .i64 L, .int .i64 s, .slice A a.next.length c, .slice F a.fin.length cf] 25)).alloc (.cells #[.int .i64 M, .int .i64 t, .slice C b.next.length d, .slice G b.fin.length cg] 25)) := by
    rw [← hw1]; exact hw2
  have hc0 := HX.out.c0
  have hc1 := HX.out.c1
  have hc2 := HX.out.c2
  have hc3 := HX.out.c3
  have hL := ha.eL
  have hM := hb.eL
  clear hw1 hw2 hB1 hB2 hX hY hd1 hd2 hs1 ha hb
  rcases g1 : dchk a with _ | e0
  · have HC := Lib.hid (dcheck_ok HA.out g1)
    rcases g2 : dchk b with _ | e0
    · have HD := Lib.hid (fun W h => dcheck_ok (v := .agg #[.int .i64 M, .int .i64 t, .slice C b.next.length d, .slice G b.fin.length cg]) (w := W) h g2)
      have HR : Hid (chkD2 a b = if L = M then 0 else 3) := by
        unfold chkD2 Hid
        rw [if_neg (by omega), if_neg (by omega), hL, hM]
        by_cases h : L = M
        · rw [if_neg (fun k => k h), if_pos h]
        · rw [if_pos h, if_neg h]
      clear g1 g2 hL hM
      generalize a.next.length = na at *
      generalize a.fin.length = fa at *
      generalize b.next.length = nb at *
      generalize b.fin.length = fb at *
      go_enter Tryd.func47, Tryd.ntmps47
      go_wp2_with fail
      rw [← HW.out]
      clear HW
      refine HC.out.mono ?_
      rintro e w3 ⟨rfl, hb⟩
      have HX := Lib.hid (HX.out.on hb)
      have HY := Lib.hid (HY.out.on hb)
      have HZ := Lib.hid (HZ.out.on hb)
      have HB := Lib.hid (HB.out.trans (hb.mono HB.out.size))
      clear hb HC hc0 hc1 hc2 hc3 HA
      have hc0 := HY.out.c0
      have hc1 := HY.out.c1
      have hc2 := HY.out.c2
      have hc3 := HY.out.c3
      go_wp2_with fail
      refine (HD.out _ HZ.out).mono ?_
      rintro e w4 ⟨rfl, hb⟩
      have HX := Lib.hid (HX.out.on hb)
      have HY := Lib.hid (HY.out.on hb)
      have HB := Lib.hid (HB.out.trans (hb.mono HB.out.size))
      clear hb HD hc0 hc1 hc2 hc3 HZ
      have hc0 := HX.out.c0
      have hd0 := HY.out.c0
      by_cases h : L = M
      · have h1 := int_eq' h
        rw [if_pos h] at HR
        clear h
        go_wp2
        go_ret
        exact ⟨by rw [HR.out]; rfl, HB.out⟩
      · have h1 := int_ne' h
        rw [if_neg h] at HR
        clear h
        go_wp2
        go_ret
        exact ⟨by rw [HR.out]; rfl, HB.out⟩
    · have HD := Lib.hid (fun W h => dcheck_bad (v := .agg #[.int .i64 M, .int .i64 t, .slice C b.next.length d, .slice G b.fin.length cg]) (w := W) h g2 rfl)
      have HR : Hid (chkD2 a b = e0 + 1) := by unfold chkD2 Hid; rw [if_neg (by omega), if_pos (by omega), g2]
      clear g1 g2 hL hM
      generalize a.next.length = na at *
      generalize a.fin.length = fa at *
      generalize b.next.length = nb at *
      generalize b.fin.length = fb at *
      generalize hE : ((e0 + 1 : Nat) : Int) = E at *
      have HE := Lib.hid hE
      clear hE
      go_enter Tryd.func47, Tryd.ntmps47
      go_wp2_with fail
      rw [← HW.out]
      clear HW
      refine HC.out.mono ?_
      rintro e w3 ⟨rfl, hb⟩
      have HY := Lib.hid (HY.out.on hb)
      have HZ := Lib.hid (HZ.out.on hb)
      have HB := Lib.hid (HB.out.trans (hb.mono HB.out.size))
      clear hb HC hc0 hc1 hc2 hc3 HA HX
      have hc0 := HY.out.c0
      have hc1 := HY.out.c1
      have hc2 := HY.out.c2
      have hc3 := HY.out.c3
      go_wp2_with fail
      refine (HD.out _ HZ.out).mono ?_
      rintro e w4 ⟨rfl, hb⟩
      have HB := Lib.hid (HB.out.trans (hb.mono HB.out.size))
      clear hb HD hc0 hc1 hc2 hc3 HZ HY
      go_wp2
      go_ret
      exact ⟨by rw [HR.out, errV_succ, HE.out]; rfl, HB.out⟩
  · have HC := Lib.hid (dcheck_bad HA.out g1 rfl)
    have HR : Hid (chkD2 a b = e0 + 1) := by unfold chkD2 Hid; rw [if_pos (by omega), g1]
    clear g1 hL hM HZ
    generalize a.next.length = na at *
    generalize a.fin.length = fa at *
    generalize b.next.length = nb at *
    generalize b.fin.length = fb at *
    generalize hE : ((e0 + 1 : Nat) : Int) = E at *
    have HE := Lib.hid hE
    clear hE
    go_enter Tryd.func47, Tryd.ntmps47
    go_wp2_with fail
    rw [← HW.out]
    clear HW
    refine HC.out.mono ?_
    rintro e w3 ⟨rfl, hb⟩
    have HB := Lib.hid (HB.out.trans (hb.mono HB.out.size))
    clear hb HC hc0 hc1 hc2 hc3 HA HX HY
    go_wp2
    go_ret
    exact ⟨by rw [HR.out, errV_succ, HE.out]; rfl, HB.out⟩
end Go.Proofs.YtbciefeipiphiaaDoor.Df
