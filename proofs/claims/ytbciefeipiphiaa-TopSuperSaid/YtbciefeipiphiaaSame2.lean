/- What package small's search keeps: pairs as keys of a map; rows of pairs with words. The walk of package small's difference. The walk of package small's Same. -/
import Derived.Test.YtbciefeipiphiaaMaps
import Derived.Test.YtbciefeipiphiaaSmallT
import Derived.Test.YtbciefeipiphiaaFirst
import Derived.Test.YtbciefeipiphiaaRegL

namespace Go.Proofs.Ytbciefeipiphiaa.Mp
open Go.RowKit Go.IntWalk Go.Proofs.Ytbciefeipiphiaa.Wd Go.Proofs.Ytbciefeipiphiaa.Wo Go.Proofs.Ytbciefeipiphiaa.Df Go.Proofs.Ytbciefeipiphiaa.Rc Go.Proofs.Ytbciefeipiphiaa.Sm
open Go.Maps (Keyed)
open Go.WideMaps (ArrKey)

/-! ### pairs -/
def K2 (p : Pr) : Value := .agg #[.int .i64 ((p.1 : Nat) : Int), .int .i64 ((p.2 : Nat) : Int)]
theorem K2_inj : ∀ x y : Pr, K2 x = K2 y → x = y := fun x y h => by
  unfold K2 at h
  simp at h
  exact Prod.ext (by omega) (by omega)
theorem arr2 : ArrKey Try.prog 111 3 2 := ⟨Try.underlying111, by kernel_rfl, by kernel_rfl, by kernel_rfl⟩
theorem keyed2 : Keyed Try.prog 111 := Keyed.of_law arr2.law
theorem K2_key (p : Pr) (h : p.1 < 4294967296 ∧ p.2 < 4294967296) : ∃ kl, keyOf Try.prog 111 (K2 p) = some kl := by
  have := arr_key arr2 Try.underlying3 types_pos (cs := [((p.1 : Nat) : Int), ((p.2 : Nat) : Int)]) rfl (fun x hx => by
    simp at hx; unfold wfI; rcases hx with rfl | rfl <;> omega)
  exact this
/-- Which pairs are known. -/
def kn (l : List (Fg Pr)) (p : Pr) : Option Bool := if knownG l p then some true else none
theorem kn_get (l : List (Fg Pr)) (p : Pr) : ((kn l p).getD false) = decide (knownG l p) := by
  unfold kn
  by_cases h : knownG l p <;> simp [h]
theorem knownG_snoc (l : List (Fg Pr)) (x : Fg Pr) (t : Pr) : knownG (l ++ [x]) t ↔ knownG l t ∨ t = x.1 := by unfold knownG; simp
theorem kn_snoc (l : List (Fg Pr)) (x : Fg Pr) : (fun y => if y = x.1 then some true else kn l y) = kn (l ++ [x]) := by
  funext y
  unfold kn
  by_cases e : y = x.1
  · rw [if_pos e, if_pos ((knownG_snoc l x y).2 (.inr e))]
  · rw [if_neg e]
    by_cases h : knownG l y
    · rw [if_pos h, if_pos ((knownG_snoc l x y).2 (.inl h))]
    · rw [if_neg h, if_neg (fun q => ((knownG_snoc l x y).1 q).elim h e)]
/-- The map of the known pairs. -/
def Knows (w : World) (b : Nat) (l : List (Fg Pr)) : Prop := ∃ m, MapIs Try.prog 111 4 K2 Lit.bool w b l.length m (kn l)

/-! ### rows of them -/
abbrev Fq := Fg Pr × Value
def qcells (l : List Fq) : List Value := l.flatMap fun p => [.int .i64 ((p.1.1.1 : Nat) : Int), .int .i64 ((p.1.1.2 : Nat) : Int), p.2]
def eFq (v : Value) (l : List Fq) : Ent := ⟨114, 3, v, l.length, qcells l⟩
def eEachQ (l : List Fq) : List Ent := l.map fun p => eInts p.2 p.1.2
theorem qcells_append (l m : List Fq) : qcells (l ++ m) = qcells l ++ qcells m := List.flatMap_append
theorem qcells_get : ∀ (l : List Fq) (k : Nat) (p : Fq), l[k]? = some p → (qcells l)[k * 3]? = some (.int .i64 ((p.1.1.1 : Nat) : Int)) ∧ (qcells l)[k * 3 + 1]? = some (.int .i64 ((p.1.1.2 : Nat) : Int)) ∧ (qcells l)[k * 3 + 2]? = some p.2
  | [], k, p, h => by simp at h
  | q :: l, 0, p, h => by
    simp only [List.getElem?_cons_zero, Option.some.injEq] at h
    subst h
    exact ⟨rfl, rfl, rfl⟩
  | q :: l, k + 1, p, h => by
    rw [List.getElem?_cons_succ] at h
    have := qcells_get l k p h
    have e : qcells (q :: l) = .int .i64 ((q.1.1.1 : Nat) : Int) :: .int .i64 ((q.1.1.2 : Nat) : Int) :: q.2 :: qcells l := rfl
    rw [e, show (k + 1) * 3 = k * 3 + 1 + 1 + 1 by omega]
    simpa using this
theorem infoQ : (Try.prog.info? 114).map (fun i => (i.zero, i.size, i.bytes)) = some (some (.agg #[.int .i64 0, .int .i64 0, .slice none 0 0]), 3, 40) := by kernel_rfl
theorem own_fq {w0 w : World} {es fs : List Ent} (h : Own w0 w es fs) {v : Value} {l : List Fq} (he : eFq v l ∈ es ++ fs) :
    ∃ A cap, v = .slice A l.length cap ∧ l.length ≤ cap ∧ cap ≤ 9223372036854775807 ∧ Cells w w.heap.size A (qcells l) := by
  obtain ⟨A, cap, hv, h1, h2, _⟩ := h.form he
  simp only [eFq] at hv h1
  subst hv
  unfold maxLen at h2
  exact ⟨A, cap, rfl, h1, h2, h.cells he⟩
theorem fq_at {w : World} {B : Nat} {A : Option Addr} {l : List Fq} (h : Cells w B A (qcells l)) {k : Nat} {p : Fq} (hk : l[k]? = some p) :
    ∃ ad, A = some ad ∧ ad.block < B ∧ w.cell? (ad.add (k * 3)) = some (.int .i64 ((p.1.1.1 : Nat) : Int)) ∧ w.cell? ⟨(ad.add (k * 3)).block, (ad.add (k * 3)).off + 1, none⟩ = some (.int .i64 ((p.1.1.2 : Nat) : Int)) ∧ w.cell? ⟨(ad.add (k * 3)).block, (ad.add (k * 3)).off + 2, none⟩ = some p.2 := by
  obtain ⟨h1, h2, h3⟩ := qcells_get l k p hk
  obtain ⟨ad, e, h4, h5⟩ := h _ _ h1
  obtain ⟨ad2, e2, _, h6⟩ := h _ _ h2
  obtain ⟨ad3, e3, _, h7⟩ := h _ _ h3
  obtain rfl := Option.some.inj (e.symm.trans e2)
  obtain rfl := Option.some.inj (e.symm.trans e3)
  refine ⟨ad, e, h4, h5, ?_, ?_⟩
  · rw [← Addr.add_succ' (ad.add (k * 3)) 0, Addr.add_add]; exact h6
  · rw [← Addr.add_succ' (ad.add (k * 3)) 1, Addr.add_add]; exact h7
theorem step_own_found2 {w0 w : World} {ops : Array Oper} {o : Oper} {a : Act} {K : Act → World → Prop} {Q : Exit → Act → World → Prop} {E : Prop} (hgd : o.guard = none) (s x : Operand)
    (ho : o.op = .call { callee := .builtin .append, args := #[s, x], argTypes := #[115, 115] })
    {v : Value} {l : List Fq} {es fs : List Ent} (hs : a.eval s = v) (h : Own w0 w (eFq v l :: es) fs) {p : Fq} (hp : p.2.oneCell' = true) {t' : TypeId} (hx : a.eval x = .slice (some ⟨w.heap.size, 0, none⟩) 1 1) (hb : l.length < 1099511627776)
    (hK : ∀ g cap w', Own w0 w' (eFq (.slice (some ⟨g, 0, none⟩) (l.length + 1) cap) (l ++ [p]) :: es) fs → K (a.put o.dst (.slice (some ⟨g, 0, none⟩) (l.length + 1) cap)) w') : if Region.wanted o (yielded ops a.tmps) = true then Oper.wp Try.prog o a (w.alloc (.cells #[.int .i64 ((p.1.1.1 : Nat) : Int), .int .i64 ((p.1.1.2 : Nat) : Int), p.2] t')) K Q else E := by
  refine step_own_append_lit hgd s x _ ho Try.underlying115 infoQ rfl (by decide) hs h hx rfl (fun u hu => by simp at hu; rcases hu with rfl | rfl | rfl; rfl; rfl; exact hp) (by omega) (by unfold maxLen; omega) (by omega) ?_
  intro g cap w' ho
  refine hK g cap w' ?_
  unfold eFq
  rw [qcells_append]
  simpa [qcells] using ho
/-- 'append(l, z)', what is appended laid ahead. -/
theorem step_own_ints1 {w0 w : World} {ops : Array Oper} {o : Oper} {a : Act} {K : Act → World → Prop} {Q : Exit → Act → World → Prop} {E : Prop} (hgd : o.guard = none) (s x : Operand)
    (ho : o.op = .call { callee := .builtin .append, args := #[s, x], argTypes := #[26, 26] })
    {v : Value} {l : List Int} {es fs : List Ent} (hs : a.eval s = v) (h : Own w0 w (eInts v l :: es) fs) {y : Int} {gz : Nat} (hm : eInts (rV gz 1) [y] ∈ es) (hx : a.eval x = .slice (some ⟨gz, 0, none⟩) 1 1) (hb : l.length < 17592186044416)
    (hK : ∀ g cap w', Own w0 w' (eInts (.slice (some ⟨g, 0, none⟩) (l.length + 1) cap) (l ++ [y]) :: es) fs → K (a.put o.dst (.slice (some ⟨g, 0, none⟩) (l.length + 1) cap)) w') : if Region.wanted o (yielded ops a.tmps) = true then Oper.wp Try.prog o a w K Q else E := by
  have hc := (own_ints_cell (g := gz) (n := 1) (cap := 1) (l := [y]) h (List.mem_append_left _ (List.mem_cons_of_mem _ hm)) rfl (j := 0) rfl).1
  refine step_own_append hgd s x _ ho Try.underlying26 infoI rfl (by decide) hs h [.int .i64 y] hx (by simp) (fun j u hj => ?_) (fun u hu => by simp at hu; subst hu; rfl) (by omega) (by unfold maxLen; omega) (by omega) ?_
  · rcases j with _ | j
    · simp at hj; subst hj
      exact hc
    · simp at hj
  intro g cap w' ho
  refine hK g cap w' ?_
  unfold eInts
  simpa [i64] using ho
/-- Two may come up. -/
theorem wpZ_two {P : Program} {ops : Array Oper} {Q : Exit → Act → World → Prop} {md : Region.Mode} {S : World → Prop} {z i j : Nat} {oi oj : Oper} {n : Nat} {listed : Array Bool} {a : Act} {w : World} (hi : ops[i]? = some oi) (hj : ops[j]? = some oj) (hr : Region.ready md ops listed = [i, j])
    (h1 : ∀ K : Act → World → Prop, Shut (∀ b u, (i ≠ z → S u) → ((i ≠ z → S u) → wpZ P md ops Q S z n (listed.setIfInBounds i true) b u) → K b u) →
      if Region.wanted oi (yielded ops a.tmps) = true then Oper.wp P oi a w K Q else K (a.put oi.dst undef) w)
    (h2 : ∀ K : Act → World → Prop, Shut (∀ b u, (j ≠ z → S u) → ((j ≠ z → S u) → wpZ P md ops Q S z n (listed.setIfInBounds j true) b u) → K b u) →
      if Region.wanted oj (yielded ops a.tmps) = true then Oper.wp P oj a w K Q else K (a.put oj.dst undef) w) : wpZ P md ops Q S z (n + 1) listed a w :=
  ⟨fun e => (by rw [hr] at e; cases e), fun k hk => by
    rw [hr] at hk
    rcases List.mem_cons.1 hk with rfl | hk
    · exact wpOp_step hi fun K hK => h1 K fun b u hS hW => hK b u ⟨hS, hW hS⟩
    · obtain rfl := List.mem_singleton.1 hk
      exact wpOp_step hj fun K hK => h2 K fun b u hS hW => hK b u ⟨hS, hW hS⟩⟩
def nilQ (rs : List Fq) : Prop := ∀ p ∈ rs, p.1.2 = [] → p.2 = .slice none 0 0
theorem nilQ_snoc {rs : List Fq} (h : nilQ rs) (t : Pr) (w : List Int) (a : Int) (v : Value) : nilQ (rs ++ [((t, w ++ [a]), v)]) := fun p hp => by
  rcases List.mem_append.1 hp with hp | hp
  · exact h p hp
  · simp at hp; subst hp; intro e; simp at e
theorem eEachQ_snoc (rs : List Fq) (p : Fq) : eEachQ (rs ++ [p]) = eEachQ rs ++ [eInts p.2 p.1.2] := by unfold eEachQ; rw [List.map_append]; rfl
end Go.Proofs.Ytbciefeipiphiaa.Mp

namespace Go.Proofs.Ytbciefeipiphiaa.Mp
open Go.RowKit Go.IntWalk Go.Proofs.Ytbciefeipiphiaa.Wd Go.Proofs.Ytbciefeipiphiaa.Wo Go.Proofs.Ytbciefeipiphiaa.Df Go.Proofs.Ytbciefeipiphiaa.Rc Go.Proofs.Ytbciefeipiphiaa.Sm

/-- What is under way: some world behind which all rows were made, in which the map stands. -/
def QInv (w1 wr : World) (a b : Aut) (s : Pr) (kb i : Nat) (pv : Value) : Prop :=
  ∃ (w0 : World) (rs : List Fq), Below w1.heap.size w1 w0 ∧ w1.heap.size ≤ kb ∧ kb < w0.heap.size ∧ Hunt2 a b s (rs.map (·.1)) i ∧ Own w0 wr [eFq pv rs] (eEachQ rs) ∧ nilQ rs ∧ Knows w0 kb (rs.map (·.1))
/-- The same within the letters of a pair. -/
def QRow (w1 wi : World) (a b : Aut) (kb gh : Nat) (l : List (Fg Pr)) (x : Fg Pr) (wv : Value) (c : Nat) (pv : Value) : Prop :=
  ∃ (w0 : World) (rs : List Fq), Below w1.heap.size w1 w0 ∧ w1.heap.size ≤ kb ∧ kb < w0.heap.size ∧ rs.map (·.1) = addGs (go2 a b) l x c ∧ Own w0 wi [eFq pv rs, eFq (rV gh 1) [(x, wv)]] (eEachQ rs) ∧ nilQ rs ∧ (x, wv) ∈ rs ∧ Knows w0 kb (rs.map (·.1))
theorem QRow.on {w1 wi wj : World} {a b : Aut} {kb gh : Nat} {l : List (Fg Pr)} {x : Fg Pr} {wv : Value} {c : Nat} {pv : Value} (h : QRow w1 wi a b kb gh l x wv c pv) (hb : Below wi.heap.size wi wj) : QRow w1 wj a b kb gh l x wv c pv := by
  obtain ⟨w0, rs, h1, h2, h3, h4, h5, h6⟩ := h
  exact ⟨w0, rs, h1, h2, h3, h4, h5.on hb, h6⟩
theorem QInv.below {w1 wr : World} {a b : Aut} {s : Pr} {kb i : Nat} {pv : Value} (h : QInv w1 wr a b s kb i pv) : Below w1.heap.size w1 wr := by
  obtain ⟨w0, rs, h1, h2, h3, h4, h5, h6⟩ := h
  exact h1.trans (h5.below.mono h1.size)
/-- What it returns. -/
def Dif (a b : Aut) (w : World) (e : Ending) (w' : World) : Prop :=
  (∃ u wv, diffW a b a.s.toNat b.s.toNat = some u ∧ e = .returned (.tuple #[wv, .bool true]) ∧ Own w w' [] [eInts wv u] ∧ (u = [] → wv = .slice none 0 0)) ∨ (diffW a b a.s.toNat b.s.toNat = none ∧ e = .returned (.tuple #[.slice none 0 0, .bool false]) ∧ Below w.heap.size w w')
set_option linter.unusedSimpArgs false in
set_option maxRecDepth 100000 in
set_option maxHeartbeats 4000000 in
theorem difference_any (v z : Value) (a b : Aut) (w : World) (ha : DfaAt w w.heap.size v a) (hb : DfaAt w w.heap.size z b) (g : Good2 a b) :
    Calls Try.prog 59 #[v, z] w fun e w' => Hid (Dif a b w e w') := by
  obtain ⟨L, s, A, c, F, cf, rfl, ha⟩ := ha
  obtain ⟨M, t, C, d, G, cg, rfl, hb⟩ := hb
  obtain ⟨wx, hwx, hBx, hX, hd1⟩ := box_dfa w ha
  obtain ⟨w1, hw1, hB1, hY, hd2⟩ := box_dfa wx (hb.on hBx)
  have hs1 : wx.heap.size = w.heap.size + 1 := by rw [hwx]; simp
  rw [hs1] at hY
  have HB := Lib.hid (hBx.trans (hB1.mono hBx.size))
  have HSz : Hid (w1.heap.size = w.heap.size + 1 + 1) := by rw [hw1, hwx]; simp [Hid]
  have HX := Lib.hid (hX.on hB1)
  have HY := Lib.hid hY
  have HDA := Lib.hid (hd1.on hB1)
  have HDB := Lib.hid hd2
  have HW : Hid (w1 = (w.alloc (.cells #[.int .i64 L, .int .i64 s, .slice A a.next.length c, .slice F a.fin.length cf] 25)).alloc (.cells #[.int .i64 M, .int .i64 t, .slice C b.next.length d, .slice G b.fin.length cg] 25)) := by
    rw [← hwx]; exact hw1
  have HG := Lib.hid g
  obtain ⟨p0, hp0⟩ := Int.eq_ofNat_of_zero_le (show 0 ≤ s by have := g.ga.st.1; have := ha.es; omega)
  obtain ⟨q0, hq0⟩ := Int.eq_ofNat_of_zero_le (show 0 ≤ t by have := g.gb.st.1; have := hb.es; omega)
  obtain ⟨n, hn⟩ := Int.eq_ofNat_of_zero_le (show 0 ≤ L by have := g.ga.l1; have := ha.eL; omega)
  have HN : Hid (a.L = (n : Int)) := by have := ha.eL; unfold Hid; omega
  have HS : Hid (a.s.toNat = p0 ∧ b.s.toNat = q0) := by have := ha.es; have := hb.es; unfold Hid; omega
  have hn6 : n ≤ 6 := by have := g.ga.l6; have := ha.eL; omega
  have hsl := g.ga.s_lt
  have htl := g.gb.s_lt
  rw [HS.out.1] at hsl
  rw [HS.out.2] at htl
  have h40 := g.ga.n40
  have h41 := g.gb.n40
  have hfa := Nat.le_of_eq g.ga.fin.symm
  have hfb := Nat.le_of_eq g.gb.fin.symm
  subst hn hp0 hq0
  have hc1 := HX.out.c1
  have hd1' := HY.out.c1
  clear hwx hw1 hBx hB1 hX hY hd1 hd2 hs1 ha hb g
  generalize hm1 : a.fin.length = fa at *
  generalize hm2 : b.fin.length = fb at *
  generalize hl1 : a.next.length = na at *
  generalize hl2 : b.next.length = nb at *
  have HFA : Hid (a.fin.length = fa ∧ b.fin.length = fb ∧ a.next.length = na ∧ b.next.length = nb) := ⟨hm1, hm2, hl1, hl2⟩
  clear hm1 hm2 hl1 hl2
  have hmm := @run_makeMap Try.prog
  go_enter Try.func59, Try.ntmps59
  go_wp2_with fail
  rw [← HW.out]
  clear HW
  have hs2 : w1.heap.size = w.heap.size + 1 + 1 := HSz.out
  obtain ⟨kl, hkl⟩ := K2_key (p0, q0) (by omega)
  obtain ⟨w4, hrun, ht4, hm4⟩ := (map_made (w1.alloc (.cells #[.int .i64 (p0 : Int), .int .i64 (q0 : Int)] 111)) Try.prog 111 4 K2 Lit.bool).store keyed2 Try.underlying112 elem_bool (by omega) hkl K2_inj (x := true) trivial
  simp only [K2] at hrun
  have hk4 : Hid (Knows w4 (w.heap.size + 1 + 1 + 1) [((p0, q0), [])]) := by
    have e : (fun y => if y = (p0, q0) then some true else (fun _ => none) y) = kn [((p0, q0), [])] := by
      have := kn_snoc [] ((p0, q0), [])
      rw [show kn [] = fun _ => none from by funext y; unfold kn knownG; simp] at this
      exact this
    rw [e] at hm4
    refine ⟨1, ?_⟩
    have e2 : (w1.alloc (.cells #[.int .i64 (p0 : Int), .int .i64 (q0 : Int)] 111)).heap.size = w.heap.size + 1 + 1 + 1 := by simp [hs2]
    rw [e2] at hm4
    exact hm4
  have ho4 : Own w1 w4 [⟨111, 2, .slice (some ⟨w1.heap.size, 0, none⟩) 1 1, 1, [.int .i64 (p0 : Int), .int .i64 (q0 : Int)]⟩] [] := by
    refine own_beside (((own_start w1).lit 111 2 1 #[.int .i64 (p0 : Int), .int .i64 (q0 : Int)] rfl (by simp [maxLen])).alloc (.map #[] 0)) (by simp) (fun e he => ?_) ht4
    simp at he; subst he
    simp [Value.ownBlock]
  have e2 : (w1.alloc (.cells #[.int .i64 (p0 : Int), .int .i64 (q0 : Int)] 111)).heap.size = w.heap.size + 1 + 1 + 1 := by simp [hs2]
  rw [e2] at hrun
  have hcp0 := (ho4.cell (t := 111) (sz := 2) (n := 1) (cap := 1) (g := w1.heap.size) (xs := [.int .i64 (p0 : Int), .int .i64 (q0 : Int)]) (j := 0) (by simp) rfl).1
  have hcp1 := (ho4.cell (t := 111) (sz := 2) (n := 1) (cap := 1) (g := w1.heap.size) (xs := [.int .i64 (p0 : Int), .int .i64 (q0 : Int)]) (j := 1) (by simp) rfl).1
  rw [hs2] at hcp0 hcp1
  have hs4 : w.heap.size + 1 + 1 + 1 < w4.heap.size := by
    rw [turned_size ht4]; simp [hs2]
  have HB4 := Lib.hid ho4.below
  have HS0 : Hid (QInv w1 (w4.alloc (.cells #[.int .i64 (p0 : Int), .int .i64 (q0 : Int), .slice none 0 0] 114)) a b (p0, q0) (w.heap.size + 1 + 1 + 1) 0 (.slice (some ⟨w4.heap.size, 0, none⟩) 1 1)) := by
    have h2 := (own_start w4).lit 114 3 1 #[.int .i64 (p0 : Int), .int .i64 (q0 : Int), .slice none 0 0] rfl (by simp [maxLen])
    refine ⟨w4, [(((p0, q0), []), .slice none 0 0)], HB4.out, by omega, hs4, hunt2_start (by rw [HFA.out.2.2.1, HFA.out.2.2.2]; exact ⟨hsl, htl⟩), ?_, fun p hp _ => by simp at hp; subst hp; rfl, hk4.out⟩
    exact (h2.nil 3 1).fin
  clear ht4 hm4 ho4 hk4 hkl e2
  rw [hrun]
  clear hrun
  go_wp2
  clear hcp0 hcp1 hmm hs2 hc1 hd1'
  have hkb : Hid (w1.heap.size ≤ w.heap.size + 1 + 1 + 1) := by have := HSz.out; unfold Hid; omega
  generalize w.heap.size + 1 + 1 + 1 = kb at *
  generalize w4.heap.size = g4 at *
  clear hs4 HB4
  go_loopw [8, 9] (fun pv i wr => ∃ (k : Nat), k ≤ 1600 ∧ i = .int .i64 k ∧ Hid (QInv w1 wr a b (p0, q0) kb k pv)) (fun _ i _ => 1601 - (intOf i).toNat)
  case atStart => exact ⟨0, by omega, rfl, HS0⟩
  case round =>
    clear HS0
    obtain ⟨k, hk, rfl, HS⟩ := hrel
    obtain ⟨w0, rs, hB0, hkb1, hkb2, hhunt, hown, hnil, hkn⟩ := HS.out
    obtain ⟨Ap, cp, hpv, hcp, _, hpa⟩ := own_fq hown (v := u8) (l := rs) (by simp)
    subst hpv
    have hbw := hown.below
    have HB0 := Lib.hid hB0
    have HX0 := Lib.hid (HX.out.on hB0)
    have HY0 := Lib.hid (HY.out.on hB0)
    have HH := Lib.hid hhunt
    have HO := Lib.hid hown
    have HNil := Lib.hid hnil
    have HKn := Lib.hid hkn
    have hr16 := hhunt.n HG.out
    rw [List.length_map] at hr16
    clear HS hhunt hown hnil hbw hB0 hkn
    by_cases hlt : k < rs.length
    · obtain ⟨⟨x, wv⟩, hx⟩ : ∃ q, rs[k]? = some q := ⟨_, List.getElem?_eq_getElem hlt⟩
      have hxl : (rs.map (·.1))[k]? = some x := by rw [List.getElem?_map, hx]; rfl
      obtain ⟨hx1, hx2⟩ := HH.out.lt x (List.mem_of_getElem? hxl)
      obtain ⟨adp, hAp, hadp, hp0, hp1, hp2⟩ := fq_at hpa hx
      subst hAp
      simp only at hp0 hp1 hp2
      obtain ⟨Aw, cw, hwv, _, _, _⟩ := HO.out.form (e := eInts wv x.2) (List.mem_append_right _ (List.mem_map.2 ⟨(x, wv), List.mem_of_getElem? hx, rfl⟩))
      simp only [eInts] at hwv
      subst hwv
      have HXL := Lib.hid hxl
      have HR0 : Hid (QRow w1 (wr.alloc (.cells #[.int .i64 (x.1.1 : Int), .int .i64 (x.1.2 : Int), .slice Aw x.2.length cw] 114)) a b kb wr.heap.size (rs.map (·.1)) x (.slice Aw x.2.length cw) 0 (.slice (some adp) rs.length cp)) := by
        have h1 := HO.out.lit 114 3 1 #[.int .i64 (x.1.1 : Int), .int .i64 (x.1.2 : Int), .slice Aw x.2.length cw] rfl (by simp [maxLen])
        exact ⟨w0, rs, HB0.out, hkb1, hkb2, rfl, h1.two, HNil.out, List.mem_of_getElem? hx, HKn.out⟩
      go_wp2_with fail
      have hgs := HO.out.below.size
      have HWa := Lib.hid (HO.out.below.trans ((below_alloc wr (.cells #[.int .i64 (x.1.1 : Int), .int .i64 (x.1.2 : Int), .slice Aw x.2.length cw] 114)).mono hgs))
      obtain ⟨w0', rs', _, _, _, hrs', hoR, _⟩ := HR0.out
      have hh0 := (hoR.cell (t := 114) (sz := 3) (n := 1) (cap := 1) (g := wr.heap.size) (xs := [.int .i64 (x.1.1 : Int), .int .i64 (x.1.2 : Int), .slice Aw x.2.length cw]) (j := 0) (by simp [eFq, qcells]) rfl).1
      have hh1 := (hoR.cell (t := 114) (sz := 3) (n := 1) (cap := 1) (g := wr.heap.size) (xs := [.int .i64 (x.1.1 : Int), .int .i64 (x.1.2 : Int), .slice Aw x.2.length cw]) (j := 1) (by simp [eFq, qcells]) rfl).1
      have hh2 := (hoR.cell (t := 114) (sz := 3) (n := 1) (cap := 1) (g := wr.heap.size) (xs := [.int .i64 (x.1.1 : Int), .int .i64 (x.1.2 : Int), .slice Aw x.2.length cw]) (j := 2) (by simp [eFq, qcells]) rfl).1
      clear hoR hrs' hp0 hp1 hp2 hadp hpa hx
      generalize hgh : wr.heap.size = gh at *
      generalize (wr.alloc (.cells #[.int .i64 (x.1.1 : Int), .int .i64 (x.1.2 : Int), .slice Aw x.2.length cw] 114)) = wa at *
      clear hgh
      have hXa := HX0.out.on HWa.out
      have hYa := HY0.out.on HWa.out
      have hc3 := hXa.c3
      have hd3 := hYa.c3
      have HBa := Lib.hid (HB0.out.trans (HWa.out.mono HB0.out.size))
      obtain ⟨adf, eF, hfa', hcf, _⟩ := (HDA.out.on HBa.out).fins.at_ (HG.out.ga.fin_at hx1)
      obtain ⟨adg, eG, hfb', hcg, _⟩ := (HDB.out.on HBa.out).fins.at_ (HG.out.gb.fin_at hx2)
      subst eF
      subst eG
      have e1 : (x.1.1 : Int) < (fa : Int) := by have := HFA.out.2.2.1; omega
      have e2 : (x.1.2 : Int) < (fb : Int) := by have := HFA.out.2.2.2; omega
      have hwl := HX0.out.lt
      have hwl2 := HY0.out.lt
      obtain ⟨ba, hba⟩ : ∃ q, q = finA a x.1.1 := ⟨_, rfl⟩
      obtain ⟨bb, hbb⟩ : ∃ q, q = finA b x.1.2 := ⟨_, rfl⟩
      rw [← hba] at hcf
      rw [← hbb] at hcg
      have HFin : Hid (fin2 a b x.1 ↔ ba ≠ bb) := by unfold fin2 Hid; rw [hba, hbb]
      have HXa := Lib.hid hXa
      have HYa := Lib.hid hYa
      clear hba hbb hXa hYa hfa' hfb'
      go_region
      go_wp2_with fail
      clear hh0 hh1
      by_cases hne : ba = bb
      · subst hne
        have HNo : Hid (¬ fin2 a b x.1) := fun q => (HFin.out.1 q) rfl
        have HNx := Lib.hid (HH.out.next HG.out HXL.out HNo.out)
        rw [HN.out, Int.toNat_natCast] at HNx
        have HR1 := Lib.hid (HR0.out.on (Below.refl _ _).drew.drew)
        clear HR0 HFin HNo hh2
        go_region
        clear hc3 hd3 hcf hcg e1 e2
        have hc0 := HXa.out.c0
        go_wp2_with fail
        clear hc0
        go_loopw [8, 57] (fun pv i wi => ∃ (q : Nat), q ≤ n ∧ i = .int .i64 q ∧ Hid (QRow w1 wi a b kb gh (rs.map (·.1)) x (.slice Aw x.2.length cw) q pv)) (fun _ i _ => n - (intOf i).toNat)
        case atStart => exact ⟨0, by omega, rfl, HR1⟩
        case round =>
          clear HR1
          obtain ⟨q, hq, rfl, HR⟩ := hrel
          obtain ⟨w2, rs2, hB2, hkb3, hkb4, hmap, hown, hnil, hmem, hkn⟩ := HR.out
          have HMem := Lib.hid hmem
          have HNil2 := Lib.hid hnil
          have HMap := Lib.hid hmap
          have HO2 := Lib.hid hown
          have HKn2 := Lib.hid hkn
          have HB2 := Lib.hid hB2
          have HBr := Lib.hid (hB2.trans (hown.below.mono hB2.size))
          clear hmem hnil hmap hown hkn hB2
          by_cases hqn : q < n
          · as_aux_lemma =>
            have hqa : (q : Int) < a.L := by have := HN.out; omega
            obtain ⟨ad1, ar1, m1, cr1, f1, f2, f3, f4, f5, f6⟩ := (HDA.out.on HBr.out).step_at HG.out.ga hx1 hqa
            obtain ⟨ad2, ar2, m2, cr2, g1, g2, g3, g4', g5, g6⟩ := (HDB.out.on HBr.out).step_at HG.out.gb hx2 (i := q) (by have := HG.out.eL; omega)
            subst f1
            subst g1
            have hXr := HX.out.on HBr.out
            have hYr := HY.out.on HBr.out
            have hc2 := hXr.c2
            have hd2 := hYr.c2
            have hl1 := hXr.lt
            have hl2 := hYr.lt
            have e1 : (x.1.1 : Int) < (na : Int) := by have := HFA.out.2.2.1; omega
            have e2 : (x.1.2 : Int) < (nb : Int) := by have := HFA.out.2.2.2; omega
            have e3 : (q : Int) < (m1 : Int) := by omega
            have e4 : (q : Int) < (m2 : Int) := by omega
            have HT : Hid (go2 a b x.1 q = (Df.step a x.1.1 q, Df.step b x.1.2 q)) := rfl
            have ht1 := HG.out.ga.step_lt hx1 hqa
            have ht2 := HG.out.gb.step_lt hx2 (a := q) (by have := HG.out.eL; omega)
            have ht1' : Df.step a x.1.1 q < 40 := by have := HFA.out.2.2.1; omega
            have ht2' : Df.step b x.1.2 q < 40 := by have := HFA.out.2.2.2; omega
            clear ht1 ht2 hXr hYr f4 g4' HR
            generalize Df.step a x.1.1 q = t1 at *
            generalize Df.step b x.1.2 q = t2 at *
            have hba := below_alloc wr (.cells #[.int .i64 0, .int .i64 0] 111)
            have k3 := (hba.cell (p := ad1.add x.1.1) (by rw [Wd.block_add]; exact f2)).trans f3
            have k4 := (hba.cell (p := ad2.add x.1.2) (by rw [Wd.block_add]; exact g2)).trans g3
            have k5 := (hba.cell (p := ar1.add q) (by rw [Wd.block_add]; exact f5)).trans f6
            have k6 := (hba.cell (p := ar2.add q) (by rw [Wd.block_add]; exact g5)).trans g6
            clear hba
            go_wp2_with fail
            go_region
            clear k3 k4 k5 k6 f3 f6 g3 g6 f2 g2 f5 g5 hc2 hd2 hl1 hl2 e1 e2 e3 e4
            have HO3 : Hid (Own w2 (wr.alloc (.cells #[.int .i64 (t1 : Int), .int .i64 (t2 : Int)] 111)).drew [⟨111, 2, .slice (some ⟨wr.heap.size, 0, none⟩) 1 1, 1, [.int .i64 (t1 : Int), .int .i64 (t2 : Int)]⟩, eFq u8 rs2, eFq (rV gh 1) [(x, .slice Aw x.2.length cw)]] (eEachQ rs2)) :=
              (HO2.out.lit 111 2 1 #[.int .i64 (t1 : Int), .int .i64 (t2 : Int)] rfl (by simp [maxLen])).on (Below.refl _ _).drew
            have hn0 := (HO3.out.cell (t := 111) (sz := 2) (n := 1) (cap := 1) (g := wr.heap.size) (xs := [.int .i64 (t1 : Int), .int .i64 (t2 : Int)]) (j := 0) (by simp) rfl).1
            have hn1 := (HO3.out.cell (t := 111) (sz := 2) (n := 1) (cap := 1) (g := wr.heap.size) (xs := [.int .i64 (t1 : Int), .int .i64 (t2 : Int)]) (j := 1) (by simp) rfl).1
            have HBc := Lib.hid ((Below.refl wr.heap.size wr).alloc (Nat.le_refl _) (.cells #[.int .i64 (t1 : Int), .int .i64 (t2 : Int)] 111)).drew
            generalize (wr.alloc (.cells #[.int .i64 (t1 : Int), .int .i64 (t2 : Int)] 111)).drew = wc at *
            have hgn : Hid (wr.heap.size = wr.heap.size) := rfl
            clear hgn
            obtain ⟨m9, hm9⟩ := HKn2.out
            have HM := Lib.hid (hm9.on HO3.out.below hkb4)
            obtain ⟨kl, hkl⟩ := K2_key (t1, t2) ⟨by omega, by omega⟩
            have HKl := Lib.hid hkl
            clear hm9 hkl
            generalize wr.heap.size = gn at *
            have hr2 : rs2.length < 4294967296 := by
              have h1 := congrArg List.length HMap.out
              have h2 := addGs_length (go2 a b) (rs.map (·.1)) x q
              rw [List.length_map] at h1 h2
              omega
            obtain ⟨bk, hbk⟩ : ∃ bk, bk = (kn (rs2.map (·.1)) (t1, t2)).getD false := ⟨_, rfl⟩
            have HBk := Lib.hid hbk
            have HR2 := Lib.hid hr2
            clear hr2
            clear hbk
            rcases bk with _ | _
            · as_aux_lemma =>
              have hkn : ¬ knownG (rs2.map (·.1)) (t1, t2) := by have := HBk.out; rw [kn_get] at this; exact of_decide_eq_false this.symm
              obtain ⟨w5, hrun, ht5, hm5⟩ := HM.out.store keyed2 Try.underlying112 elem_bool (by rw [List.length_map]; exact HR2.out) HKl.out K2_inj (x := true) trivial
              have hold : addGs (go2 a b) (rs.map (·.1)) x (q + 1) = rs2.map (·.1) ++ [((t1, t2), x.2 ++ [(q : Int)])] := by
                rw [addGs, ← HMap.out, HT.out]; unfold addG; rw [if_neg hkn]
              have HOld := Lib.hid hold
              rw [kn_snoc _ ((t1, t2), x.2 ++ [(q : Int)])] at hm5
              obtain ⟨w2', ho5, hs5, ht2, hblk⟩ := own_turned HO3.out hkb4 ht5
              have HKn5 : Hid (Knows w2' kb (rs2.map (·.1) ++ [((t1, t2), x.2 ++ [(q : Int)])])) := ⟨_, by
                rw [List.length_append, List.length_singleton]
                exact hm5.of_block hblk⟩
              have HB5 := Lib.hid (HB2.out.trans (turned_below ht2 hkb3))
              have HO5 := Lib.hid ho5
              have hkb5 : kb < w2'.heap.size := by rw [hs5]; exact hkb4
              simp only [K2] at hrun
              have HRun := Lib.hid hrun
              clear ht5 hm5 hblk hs5 ht2 ho5 hold hkn hrun
              go_wp2_with (at_lookup; refine wp_look_is HM.out keyed2 Try.underlying112 elem_bool (by rfl) _ _ (by rfl) (by rfl) (a := (t1, t2)) (by rfl) HKl.out HBk.out ?_)
              rw [HRun.out]
              clear HRun HM HKl HBk
              have hn2 := (HO5.out.cell (t := 111) (sz := 2) (n := 1) (cap := 1) (g := gn) (xs := [.int .i64 (t1 : Int), .int .i64 (t2 : Int)]) (j := 0) (by simp) rfl).1
              have hn3 := (HO5.out.cell (t := 111) (sz := 2) (n := 1) (cap := 1) (g := gn) (xs := [.int .i64 (t1 : Int), .int .i64 (t2 : Int)]) (j := 1) (by simp) rfl).1
              go_wp2_with fail
              have HLen : Hid (rs2.length < 1099511627776) := by have := HR2.out; unfold Hid; omega
              have hwo := own_one HO5.out (v := .slice Aw x.2.length cw) (l := x.2) (List.mem_append_right _ (List.mem_map.2 ⟨(x, .slice Aw x.2.length cw), HMem.out, rfl⟩))
              have hxw := HH.out.srch.ok x (List.mem_of_getElem? HXL.out)
              have hxsm : ∀ y ∈ x.2, Small y := fun y hy => by
                have h1 := hxw.1 y hy
                have := HN.out
                exact ⟨by omega, by omega⟩
              have hxlen := HH.out.srch.len k x HXL.out
              have hxl1 : x.2.length < 17592186044416 := by omega
              have HCl := Lib.hid (clone_word (.slice Aw x.2.length cw) x.2 w5.drew (HO5.out.on (Below.refl _ _).drew) (List.mem_append_right _ (List.mem_map.2 ⟨_, HMem.out, rfl⟩)) hxsm (fun e => HNil2.out _ HMem.out e) (by omega))
              have HK : Hid (∀ W es fs, Own w2' W es fs → ⟨111, 2, .slice (some ⟨gn, 0, none⟩) 1 1, 1, [.int .i64 (t1 : Int), .int .i64 (t2 : Int)]⟩ ∈ es ++ fs ∧ eFq (rV gh 1) [(x, .slice Aw x.2.length cw)] ∈ es ++ fs → W.cell? ⟨gn, 0, none⟩ = some (.int .i64 (t1 : Int)) ∧ W.cell? ⟨gn, 1, none⟩ = some (.int .i64 (t2 : Int)) ∧ W.cell? ⟨gh, 2, none⟩ = some (.slice Aw x.2.length cw)) := fun W es fs hW hm =>
                ⟨(hW.cell (t := 111) (sz := 2) (n := 1) (cap := 1) (g := gn) (xs := [.int .i64 (t1 : Int), .int .i64 (t2 : Int)]) (j := 0) hm.1 rfl).1, (hW.cell (t := 111) (sz := 2) (n := 1) (cap := 1) (g := gn) (xs := [.int .i64 (t1 : Int), .int .i64 (t2 : Int)]) (j := 1) hm.1 rfl).1, (hW.cell (t := 114) (sz := 3) (n := 1) (cap := 1) (g := gh) (xs := [.int .i64 (x.1.1 : Int), .int .i64 (x.1.2 : Int), .slice Aw x.2.length cw]) (j := 2) hm.2 rfl).1⟩
              have HOB : Hid (Own w2' (w5.drew.alloc (.cells #[.int .i64 (q : Int)] 3)) [eInts (rV w5.heap.size 1) [(q : Int)], ⟨111, 2, .slice (some ⟨gn, 0, none⟩) 1 1, 1, [.int .i64 (t1 : Int), .int .i64 (t2 : Int)]⟩, eFq u8 rs2, eFq (rV gh 1) [(x, .slice Aw x.2.length cw)]] (eEachQ rs2)) :=
                (HO5.out.on (Below.refl _ _).drew).lit 3 1 1 #[.int .i64 (q : Int)] rfl (by simp [maxLen])
              have HClB := Lib.hid (clone_word (.slice Aw x.2.length cw) x.2 (w5.drew.alloc (.cells #[.int .i64 (q : Int)] 3)) HOB.out (List.mem_append_right _ (List.mem_map.2 ⟨_, HMem.out, rfl⟩)) hxsm (fun e => HNil2.out _ HMem.out e) (by omega))
              clear hwo hxw hxsm hxlen hn2 hn3
              refine wp_region_Z (fun W => W.cell? ⟨gn, 0, none⟩ = some (.int .i64 (t1 : Int)) ∧ W.cell? ⟨gn, 1, none⟩ = some (.int .i64 (t2 : Int)) ∧ W.cell? ⟨gh, 2, none⟩ = some (.slice Aw x.2.length cw)) 11 (by kernel_rfl) (HK.out _ _ _ (HO5.out.on (Below.refl _ _).drew) (by simp)) (fun hHeld => ?_)
              refine wpZ_take (i := 0) (v := ?_) rfl (by kernel_rfl) (by kernel_rfl) (by kernel_rfl) (by kernel_rfl) (fun _ _ _ h => h) (Or.inl ⟨by rfl, ?_⟩) hHeld ?_
              rotate_left
              · (go_light; intro w9 hSw; (try dsimp only at hSw); go_simp; try with_reducible rfl)
              try simp only [Act.put, List.setIfInBounds_toArray, List.set_cons_zero, List.set_cons_succ]
              refine wpZ_take (i := 1) (v := ?_) rfl (by kernel_rfl) (by kernel_rfl) (by kernel_rfl) (by kernel_rfl) (fun _ _ _ h => h) (Or.inl ⟨by rfl, ?_⟩) hHeld ?_
              rotate_left
              · (go_light; intro w9 hSw; (try dsimp only at hSw); go_simp; try with_reducible rfl)
              try simp only [Act.put, List.setIfInBounds_toArray, List.set_cons_zero, List.set_cons_succ]
              refine wpZ_take (i := 2) (v := ?_) rfl (by kernel_rfl) (by kernel_rfl) (by kernel_rfl) (by kernel_rfl) (fun _ _ _ h => h) (Or.inl ⟨by rfl, ?_⟩) hHeld ?_
              rotate_left
              · (go_light; intro w9 hSw; (try dsimp only at hSw); go_simp; try with_reducible rfl)
              try simp only [Act.put, List.setIfInBounds_toArray, List.set_cons_zero, List.set_cons_succ]
              refine wpZ_take (i := 3) (v := ?_) rfl (by kernel_rfl) (by kernel_rfl) (by kernel_rfl) (by kernel_rfl) (fun _ _ _ h => h) (Or.inl ⟨by rfl, ?_⟩) hHeld ?_
              rotate_left
              · (go_light; intro w9 hSw; (try dsimp only at hSw); go_simp; try with_reducible rfl)
              try simp only [Act.put, List.setIfInBounds_toArray, List.set_cons_zero, List.set_cons_succ]
              refine wpZ_take (i := 5) (v := ?_) rfl (by kernel_rfl) (by kernel_rfl) (by kernel_rfl) (by kernel_rfl) (fun _ _ _ h => h) (Or.inl ⟨by rfl, ?_⟩) hHeld ?_
              rotate_left
              · (go_light; intro w9 hSw; (try dsimp only at hSw); go_simp; try with_reducible rfl)
              try simp only [Act.put, List.setIfInBounds_toArray, List.set_cons_zero, List.set_cons_succ]
              refine wpZ_two (i := 4) (j := 6) rfl rfl (by kernel_rfl) (fun K hK => ?_) (fun K hK => ?_)
              · go_simp
                refine (HCl.out).mono ?_
                rintro e w6 he
                obtain ⟨v6, h6, ho6⟩ := he.out
                subst h6
                have HO6 := Lib.hid ((HO5.out.on (Below.refl _ _).drew).join ho6)
                clear he ho6
                try simp only []
                refine hK.out _ _ (fun _ => HK.out _ _ _ HO6.out (by simp)) (fun hHeld9 => ?_)
                replace hHeld := hHeld9 (by decide)
                clear hHeld9
                clear hK K
                try simp only [Act.put, List.setIfInBounds_toArray, List.set_cons_zero, List.set_cons_succ]
                refine wpZ_one (i := 6) rfl (by kernel_rfl) (fun K hK => ?_)
                go_simp
                refine hK.out _ _ (fun _ => HK.out _ _ _ (HO6.out.alloc _) (by simp)) (fun hHeld9 => ?_)
                replace hHeld := hHeld9 (by decide)
                clear hHeld9
                clear hK K
                try simp only [Act.put, List.setIfInBounds_toArray, List.set_cons_zero, List.set_cons_succ]
                refine wpZ_one (i := 7) rfl (by kernel_rfl) (fun K hK => ?_)
                refine step_own_int (by rfl) _ _ (by rfl) (by rfl) HO6.out (by rfl) hxl1 ?_
                intro g7 cap7 w7 ho7
                have HO7 := Lib.hid (ho7.re [2, 1, 3, 0] 4 rfl (by decide))
                clear ho7
                refine hK.out _ _ (fun _ => HK.out _ _ _ HO7.out (by simp)) (fun hHeld9 => ?_)
                replace hHeld := hHeld9 (by decide)
                clear hHeld9
                clear hK K
                try simp only [Act.put, List.setIfInBounds_toArray, List.set_cons_zero, List.set_cons_succ]
                refine wpZ_take (i := 8) (v := ?_) rfl (by kernel_rfl) (by kernel_rfl) (by kernel_rfl) (by kernel_rfl) (fun _ _ _ h => h) (Or.inl ⟨by rfl, ?_⟩) hHeld ?_
                rotate_left
                · (go_light; intro w9 hSw; (try dsimp only at hSw); go_simp; try with_reducible rfl)
                try simp only [Act.put, List.setIfInBounds_toArray, List.set_cons_zero, List.set_cons_succ]
                refine wpZ_one (i := 9) rfl (by kernel_rfl) (fun K hK => ?_)
                go_simp
                refine hK.out _ _ (fun _ => HK.out _ _ _ (HO7.out.alloc _) (by simp)) (fun hHeld9 => ?_)
                replace hHeld := hHeld9 (by decide)
                clear hHeld9
                clear hK K
                try simp only [Act.put, List.setIfInBounds_toArray, List.set_cons_zero, List.set_cons_succ]
                refine wpZ_one (i := 10) rfl (by kernel_rfl) (fun K hK => ?_)
                refine step_own_found2 (p := (((t1, t2), x.2 ++ [(q : Int)]), .slice (some ⟨g7, 0, none⟩) (x.2.length + 1) cap7)) (by rfl) _ _ (by rfl) (by rfl) HO7.out rfl (by rfl) HLen.out ?_
                intro g8 cap8 w8 ho8
                refine hK.out _ _ (fun _ => HK.out _ _ _ ho8 (by simp)) (fun hHeld9 => ?_)
                replace hHeld := hHeld9 (by decide)
                clear hHeld9
                clear hK K
                try simp only [Act.put, List.setIfInBounds_toArray, List.set_cons_zero, List.set_cons_succ]
                refine wpZ_one (i := 11) rfl (by kernel_rfl) (fun K hK => ?_)
                go_simp
                refine hK.out _ _ (fun k => absurd rfl k) (fun _ => ?_)
                clear hK K
                try simp only [Act.put, List.setIfInBounds_toArray, List.set_cons_zero, List.set_cons_succ]
                refine wpZ_done (by kernel_rfl) ?_ _
                have HR1 : Hid (QRow w1 w8 a b kb gh (rs.map (·.1)) x (.slice Aw x.2.length cw) (q + 1) (.slice (some ⟨g8, 0, none⟩) (rs2.length + 1) cap8)) := by
                  refine ⟨w2', rs2 ++ [(((t1, t2), x.2 ++ [(q : Int)]), .slice (some ⟨g7, 0, none⟩) (x.2.length + 1) cap7)], HB5.out, hkb3, hkb5, ?_, ?_, nilQ_snoc HNil2.out _ _ _ _, List.mem_append_left _ HMem.out, ?_⟩
                  · rw [HOld.out, List.map_append]; rfl
                  · refine ((((ho8.re [3, 0, 1, 2] 4 rfl (by decide)).fin).re [1, 0, 2] 3 rfl (by decide)).tail).weak fun e he => ?_
                    rw [eEachQ_snoc] at he
                    rcases List.mem_append.1 he with he | he
                    · exact List.mem_cons_of_mem _ he
                    · simp at he; subst he
                      simp [eInts]
                  · rw [List.map_append]; exact HKn5.out
                clear HK HO5 HO6 HO7 ho8 hHeld HOld HMem HNil2 HMap HLen HKn5 HCl HClB
                go_wp2
                go_roundw
                case rel => exact ⟨q + 1, by omega, by go_num, HR1⟩
                case measure => simp [intOf]; omega
              · go_simp
                refine hK.out _ _ (fun _ => HK.out _ _ _ HOB.out (by simp)) (fun hHeld9 => ?_)
                replace hHeld := hHeld9 (by decide)
                clear hHeld9
                clear hK K
                try simp only [Act.put, List.setIfInBounds_toArray, List.set_cons_zero, List.set_cons_succ]
                refine wpZ_one (i := 4) rfl (by kernel_rfl) (fun K hK => ?_)
                go_simp
                refine (HClB.out).mono ?_
                rintro e w6 he
                obtain ⟨v6, h6, ho6⟩ := he.out
                subst h6
                have HO6 := Lib.hid (HOB.out.join ho6)
                clear he ho6
                try simp only []
                refine hK.out _ _ (fun _ => HK.out _ _ _ HO6.out (by simp)) (fun hHeld9 => ?_)
                replace hHeld := hHeld9 (by decide)
                clear hHeld9
                clear hK K
                try simp only [Act.put, List.setIfInBounds_toArray, List.set_cons_zero, List.set_cons_succ]
                refine wpZ_one (i := 7) rfl (by kernel_rfl) (fun K hK => ?_)
                refine step_own_ints1 (y := (q : Int)) (gz := w5.heap.size) (by rfl) _ _ (by rfl) (by rfl) HO6.out (by simp) (by rfl) hxl1 ?_
                intro g7 cap7 w7 ho7
                have HO7 := Lib.hid ((ho7.re [1, 3, 2, 4, 0] 5 rfl (by decide)).tail)
                clear ho7
                refine hK.out _ _ (fun _ => HK.out _ _ _ HO7.out (by simp)) (fun hHeld9 => ?_)
                replace hHeld := hHeld9 (by decide)
                clear hHeld9
                clear hK K
                try simp only [Act.put, List.setIfInBounds_toArray, List.set_cons_zero, List.set_cons_succ]
                refine wpZ_take (i := 8) (v := ?_) rfl (by kernel_rfl) (by kernel_rfl) (by kernel_rfl) (by kernel_rfl) (fun _ _ _ h => h) (Or.inl ⟨by rfl, ?_⟩) hHeld ?_
                rotate_left
                · (go_light; intro w9 hSw; (try dsimp only at hSw); go_simp; try with_reducible rfl)
                try simp only [Act.put, List.setIfInBounds_toArray, List.set_cons_zero, List.set_cons_succ]
                refine wpZ_one (i := 9) rfl (by kernel_rfl) (fun K hK => ?_)
                go_simp
                refine hK.out _ _ (fun _ => HK.out _ _ _ (HO7.out.alloc _) (by simp)) (fun hHeld9 => ?_)
                replace hHeld := hHeld9 (by decide)
                clear hHeld9
                clear hK K
                try simp only [Act.put, List.setIfInBounds_toArray, List.set_cons_zero, List.set_cons_succ]
                refine wpZ_one (i := 10) rfl (by kernel_rfl) (fun K hK => ?_)
                refine step_own_found2 (p := (((t1, t2), x.2 ++ [(q : Int)]), .slice (some ⟨g7, 0, none⟩) (x.2.length + 1) cap7)) (by rfl) _ _ (by rfl) (by rfl) HO7.out rfl (by rfl) HLen.out ?_
                intro g8 cap8 w8 ho8
                refine hK.out _ _ (fun _ => HK.out _ _ _ ho8 (by simp)) (fun hHeld9 => ?_)
                replace hHeld := hHeld9 (by decide)
                clear hHeld9
                clear hK K
                try simp only [Act.put, List.setIfInBounds_toArray, List.set_cons_zero, List.set_cons_succ]
                refine wpZ_one (i := 11) rfl (by kernel_rfl) (fun K hK => ?_)
                go_simp
                refine hK.out _ _ (fun k => absurd rfl k) (fun _ => ?_)
                clear hK K
                try simp only [Act.put, List.setIfInBounds_toArray, List.set_cons_zero, List.set_cons_succ]
                refine wpZ_done (by kernel_rfl) ?_ _
                have HR1 : Hid (QRow w1 w8 a b kb gh (rs.map (·.1)) x (.slice Aw x.2.length cw) (q + 1) (.slice (some ⟨g8, 0, none⟩) (rs2.length + 1) cap8)) := by
                  refine ⟨w2', rs2 ++ [(((t1, t2), x.2 ++ [(q : Int)]), .slice (some ⟨g7, 0, none⟩) (x.2.length + 1) cap7)], HB5.out, hkb3, hkb5, ?_, ?_, nilQ_snoc HNil2.out _ _ _ _, List.mem_append_left _ HMem.out, ?_⟩
                  · rw [HOld.out, List.map_append]; rfl
                  · refine ((((ho8.re [3, 0, 1, 2] 4 rfl (by decide)).fin).re [1, 0, 2] 3 rfl (by decide)).tail).weak fun e he => ?_
                    rw [eEachQ_snoc] at he
                    rcases List.mem_append.1 he with he | he
                    · exact List.mem_cons_of_mem _ he
                    · simp at he; subst he
                      simp [eInts]
                  · rw [List.map_append]; exact HKn5.out
                clear HK HO5 HO6 HO7 ho8 hHeld HOld HMem HNil2 HMap HLen HKn5 HCl HClB
                go_wp2
                go_roundw
                case rel => exact ⟨q + 1, by omega, by go_num, HR1⟩
                case measure => simp [intOf]; omega
            · as_aux_lemma =>
              have hkn : knownG (rs2.map (·.1)) (t1, t2) := by have := HBk.out; rw [kn_get] at this; exact of_decide_eq_true this.symm
              have HR1 : Hid (QRow w1 wc a b kb gh (rs.map (·.1)) x (.slice Aw x.2.length cw) (q + 1) u8) := by
                refine ⟨w2, rs2, HB2.out, hkb3, hkb4, ?_, HO3.out.tail, HNil2.out, HMem.out, HKn2.out⟩
                rw [addGs, ← HMap.out, HT.out]
                unfold addG
                rw [if_pos hkn]
              clear hkn HO3 HBc HMap HMem HNil2
              go_wp2_with (at_lookup; refine wp_look_is HM.out keyed2 Try.underlying112 elem_bool (by rfl) _ _ (by rfl) (by rfl) (a := (t1, t2)) (by rfl) HKl.out HBk.out ?_)
              go_roundw
              case rel => exact ⟨q + 1, by omega, by go_num, HR1⟩
              case measure => simp [intOf]; omega
          · as_aux_lemma =>
            obtain rfl : q = n := by omega
            have HEnd : Hid (QInv w1 wr a b (p0, q0) kb (k + 1) u8) := by
              refine ⟨w2, rs2, HB2.out, hkb3, hkb4, by rw [HMap.out]; exact HNx.out, HO2.out.two.tail, HNil2.out, HKn2.out⟩
            have hk9 : k + 1 ≤ 1600 := by omega
            clear HR HMem HNil2 HMap HO2 HKn2
            go_wp2
            go_roundw
            case rel => exact ⟨k + 1, hk9, by go_num, HEnd⟩
            case measure => simp [intOf]; omega
      · as_aux_lemma =>
        obtain rfl : bb = !ba := by revert hne; cases ba <;> cases bb <;> simp
        have HEnd : Hid (Dif a b w (.returned (.tuple #[.slice Aw x.2.length cw, .bool true])) wa.drew.drew) := by
          have hd := HH.out.hit HG.out (by rw [HFA.out.2.2.1, HFA.out.2.2.2]; exact ⟨hsl, htl⟩) HXL.out (HFin.out.2 hne)
          obtain ⟨w3, rs3, hb3, _, _, hm3, ho3, hn3, hx3, _⟩ := HR0.out
          refine .inl ⟨x.2, .slice Aw x.2.length cw, by rw [HS.out.1, HS.out.2]; exact hd, rfl, ?_, fun e => hn3 _ hx3 e⟩
          exact (((ho3.on (Below.refl _ _).drew.drew).base (HB.out.trans (hb3.mono HB.out.size))).only).weak fun e he => by
            simp at he; subst he
            exact List.mem_map.2 ⟨_, hx3, rfl⟩
        clear hne HR0
        go_region
        clear hc3 hd3 hcf hcg e1 e2
        go_wp2_with fail
        go_ret2
        exact HEnd
    · as_aux_lemma =>
      have hkl : k = rs.length := by have := HH.out.le; rw [List.length_map] at this; omega
      have HEnd : Hid (Dif a b w (.returned (.tuple #[.slice none 0 0, .bool false])) wr) := by
        refine .inr ⟨?_, rfl, ?_⟩
        · rw [HS.out.1, HS.out.2]
          exact HH.out.miss HG.out (by rw [HFA.out.2.2.1, HFA.out.2.2.2]; exact ⟨hsl, htl⟩) (by rw [List.length_map]; omega)
        · exact HB.out.trans ((HB0.out.trans (HO.out.below.mono HB0.out.size)).mono HB.out.size)
      clear HO HNil HKn hpa
      go_wp2
      go_ret2
      exact HEnd
end Go.Proofs.Ytbciefeipiphiaa.Mp

namespace Go.Proofs.Ytbciefeipiphiaa.Mp
open Go.RowKit Go.IntWalk Go.Proofs.Ytbciefeipiphiaa.Wd Go.Proofs.Ytbciefeipiphiaa.Wo Go.Proofs.Ytbciefeipiphiaa.Df Go.Proofs.Ytbciefeipiphiaa.Rc Go.Proofs.Ytbciefeipiphiaa.Sm

/-- Whether two accept the same; else the first word at which they differ; the error. -/
def sameOut (a b : Aut) : Bool × List Int × Nat :=
  if chkD2 a b = 0 then (match diffW a b a.s.toNat b.s.toNat with | some u => (false, u, 0) | none => (true, [], 0)) else (false, [], chkD2 a b)
theorem sameOut_bad {a b : Aut} (h : chkD2 a b ≠ 0) : sameOut a b = (false, [], chkD2 a b) := if_neg h
theorem sameOut_some {a b : Aut} (h : chkD2 a b = 0) {u : List Int} (hu : diffW a b a.s.toNat b.s.toNat = some u) : sameOut a b = (false, u, 0) := by unfold sameOut; rw [if_pos h, hu]
theorem sameOut_none {a b : Aut} (h : chkD2 a b = 0) (hu : diffW a b a.s.toNat b.s.toNat = none) : sameOut a b = (true, [], 0) := by unfold sameOut; rw [if_pos h, hu]
/-- What Same returns. -/
def SameR (out : Bool × List Int × Nat) (w : World) (e : Ending) (w' : World) : Prop := ∃ wv, e = .returned (.tuple #[.bool out.1, wv, errV out.2.2]) ∧ Own w w' [] [eInts wv out.2.1] ∧ (out.2.1 = [] → wv = .slice none 0 0)
set_option maxRecDepth 100000 in
set_option maxHeartbeats 1000000 in
theorem same_any (v z : Value) (a b : Aut) (w : World) (ha : DfaAt w w.heap.size v a) (hb : DfaAt w w.heap.size z b) :
    Calls Try.prog 57 #[v, z] w fun e w' => Hid (SameR (sameOut a b) w e w') := by
  have HA := ha
  have HZ := hb
  obtain ⟨L, s, A, c, F, cf, rfl, ha⟩ := ha
  obtain ⟨M, t, C, d, G, cg, rfl, hb⟩ := hb
  obtain ⟨wx, hwx, hBx, hX, hd1⟩ := box_dfa w ha
  obtain ⟨w1, hw1, hB1, hY, hd2⟩ := box_dfa wx (hb.on hBx)
  have hs1 : wx.heap.size = w.heap.size + 1 := by rw [hwx]; simp
  rw [hs1] at hY
  have HB := Lib.hid (hBx.trans (hB1.mono hBx.size))
  have HX := Lib.hid (hX.on hB1)
  have HY := Lib.hid hY
  have HA := Lib.hid (HA.on HB.out)
  have HZ := Lib.hid (HZ.on HB.out)
  have HW : Hid (w1 = (w.alloc (.cells #[.int .i64 L, .int .i64 s, .slice A a.next.length c, .slice F a.fin.length cf] 25)).alloc (.cells #[.int .i64 M, .int .i64 t, .slice C b.next.length d, .slice G b.fin.length cg] 25)) := by
    rw [← hwx]; exact hw1
  have hc0 := HX.out.c0
  have hc1 := HX.out.c1
  have hc2 := HX.out.c2
  have hc3 := HX.out.c3
  have hd0 := HY.out.c0
  have hd1' := HY.out.c1
  have hd2' := HY.out.c2
  have hd3 := HY.out.c3
  clear hwx hw1 hBx hB1 hX hY hd1 hd2 hs1 ha hb
  generalize a.fin.length = fa at *
  generalize b.fin.length = fb at *
  generalize a.next.length = na at *
  generalize b.next.length = nb at *
  rcases g1 : chkD2 a b with _ | e0
  · have HC := Lib.hid (chkD2_ok HA.out HZ.out g1)
    have HG : Hid (Good2 a b) := chkD2_iff.1 g1
    have HSo : Hid (∀ u, diffW a b a.s.toNat b.s.toNat = some u → sameOut a b = (false, u, 0)) := fun u hu => sameOut_some g1 hu
    have HNo : Hid (diffW a b a.s.toNat b.s.toNat = none → sameOut a b = (true, [], 0)) := fun hu => sameOut_none g1 hu
    clear g1
    go_enter Try.func57, Try.ntmps57
    go_wp2_with fail
    rw [← HW.out]
    clear HW
    refine HC.out.mono ?_
    rintro e w2 ⟨rfl, hb⟩
    have HB2 := Lib.hid hb
    have hX := HX.out.on hb
    have hY := HY.out.on hb
    have hc0 := hX.c0
    have hc1 := hX.c1
    have hc2 := hX.c2
    have hc3 := hX.c3
    have hd0 := hY.c0
    have hd1' := hY.c1
    have hd2' := hY.c2
    have hd3 := hY.c3
    have HDi := Lib.hid (difference_any _ _ a b w2 (HA.out.on hb) (HZ.out.on hb) HG.out)
    clear hb hX hY HX HY HC
    go_wp2_with fail
    refine HDi.out.mono ?_
    rintro e w3 he
    rcases he.out with ⟨u, wv, h1, h2, h3, h4⟩ | ⟨h1, h2, h3⟩
    · subst h2
      have HR : Hid (SameR (sameOut a b) w (.returned (.tuple #[.bool false, wv, .nilIface])) w3) := by
        rw [Hid, HSo.out u h1]
        exact ⟨wv, rfl, h3.base (HB.out.trans (HB2.out.mono HB.out.size)), h4⟩
      clear he h1 h3 h4 HDi
      go_wp2
      go_ret3
      exact HR
    · subst h2
      have HR : Hid (SameR (sameOut a b) w (.returned (.tuple #[.bool true, .slice none 0 0, .nilIface])) w3) := by
        rw [Hid, HNo.out h1]
        exact ⟨.slice none 0 0, rfl, own_nil ((HB.out.trans (HB2.out.mono HB.out.size)).trans (h3.mono (Nat.le_trans HB.out.size HB2.out.size))), fun _ => rfl⟩
      clear he h1 h3 HDi
      go_wp2
      go_ret3
      exact HR
  · obtain ⟨x, hx⟩ : ∃ x : Int, x = ((e0 + 1 : Nat) : Int) := ⟨_, rfl⟩
    have HC := Lib.hid (chkD2_bad HA.out HZ.out g1 hx)
    have HSo : Hid (sameOut a b = (false, [], e0 + 1)) := by rw [Hid, sameOut_bad (by omega), g1]
    have HE : Hid (errV (e0 + 1) = errI x) := by rw [Hid, hx]; rfl
    clear g1 hx
    go_enter Try.func57, Try.ntmps57
    go_wp2_with fail
    rw [← HW.out]
    clear HW
    refine HC.out.mono ?_
    rintro e w2 ⟨rfl, hb⟩
    have HR : Hid (SameR (sameOut a b) w (.returned (.tuple #[.bool false, .slice none 0 0, errI x])) w2) := by
      rw [Hid, HSo.out]
      exact ⟨.slice none 0 0, by rw [HE.out], own_nil (HB.out.trans (hb.mono HB.out.size)), fun _ => rfl⟩
    clear hb hc0 hc1 hc2 hc3 hd0 hd1' hd2' hd3 HX HY HA HZ HC
    go_wp2
    go_ret3
    exact HR
end Go.Proofs.Ytbciefeipiphiaa.Mp
