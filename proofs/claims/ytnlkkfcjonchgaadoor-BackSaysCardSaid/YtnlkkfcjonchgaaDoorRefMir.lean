/- Automata in many states that the reference makes: a struct, rows of ints, a row of moves. The walk of the reference's NfaOf. The walk of the reference's NfaMirror. -/
import Derived.Test.YtnlkkfcjonchgaaDoorNfaR

namespace Go.Proofs.YtnlkkfcjonchgaaDoor.Nf
open Go.RowKit Go.IntWalk Go.Proofs.YtnlkkfcjonchgaaDoor.Wd Go.Proofs.YtnlkkfcjonchgaaDoor.Wo Go.Proofs.YtnlkkfcjonchgaaDoor.Df

/-- Number i, which only reads, is taken first; its slot is told. -/
theorem wpZ_takeD {P : Program} {ops : Array Oper} {Q : Exit → Act → World → Prop} {md : Region.Mode} {S : World → Prop} {z : Nat} {i : Nat} {oi : Oper} (d : Option Tmp) {v : Value} {n : Nat} {listed : Array Bool} {a : Act} {w : World} (hi : ops[i]? = some oi) (hd : oi.dst = d) (hs : Region.noSelect ops = true) (hf : Region.free md ops listed i = true)
    (hr : (Region.ready md ops listed).contains i = true) (hz : waitsB md ops z i = true) (hQ : ∀ c a w, Q (.panic c) (a.put d v) w → Q (.panic c) a w) (hy : YieldsIf P ops S oi v a) (hS : S w)
    (h : wpZ P md ops Q S z n (listed.setIfInBounds i true) (a.put d v) w) : wpZ P md ops Q S z (n + 1) listed a w := by
  subst hd
  exact wpZ_take hi hs hf hr hz hQ hy hS h
theorem results_nfa1 {fn : Func} {t : Tmp} (h : fn.results = #[.cell t 56]) (tmps : Array Value) {w : World} {g : Nat} {v0 v1 v2 v3 v4 : Value} (hp : tmps.getD t undef = .pointer (some ⟨g, 0, none⟩))
    (c0 : w.cell? ⟨g, 0, none⟩ = some v0) (c1 : w.cell? ⟨g, 1, none⟩ = some v1) (c2 : w.cell? ⟨g, 2, none⟩ = some v2) (c3 : w.cell? ⟨g, 3, none⟩ = some v3) (c4 : w.cell? ⟨g, 4, none⟩ = some v4) :
    (results fn tmps).run Tryd.prog w = .ok (.agg #[v0, v1, v2, v3, v4]) w := by
  have hp' : tmps[t]?.getD undef = .pointer (some ⟨g, 0, none⟩) := by simpa using hp
  simp [results, h, hp', go_sem, c0, c1, c2, c3, c4]
/-- 'append(l, m)' of one move, in a region that draws. -/
theorem step_own_move {w0 w : World} {ops : Array Oper} {o : Oper} {a : Act} {K : Act → World → Prop} {Q : Exit → Act → World → Prop} {E : Prop} (hgd : o.guard = none) (s x : Operand)
    (ho : o.op = .call { callee := .builtin .append, args := #[s, x], argTypes := #[54, 54] })
    {v : Value} {l : List Mv} {es fs : List Ent} (hs : a.eval s = v) (h : Own w0 w (eMoves v l :: es) fs) {m : Mv} {t' : TypeId} (hx : a.eval x = .slice (some ⟨w.heap.size, 0, none⟩) 1 1) (hb : l.length < 1099511627776)
    (hK : ∀ g cap w', Own w0 w' (eMoves (.slice (some ⟨g, 0, none⟩) (l.length + 1) cap) (l ++ [m]) :: es) fs → K (a.put o.dst (.slice (some ⟨g, 0, none⟩) (l.length + 1) cap)) w') : if Region.wanted o (yielded ops a.tmps) = true then Oper.wp Tryd.prog o a (w.alloc (.cells #[.int .i64 m.1, .int .i64 m.2.1, .int .i64 m.2.2] t')) K Q else E := by
  refine step_own_append_lit hgd s x _ ho Tryd.underlying54 infoMove rfl (by decide) hs h hx rfl (fun u hu => by simp at hu; rcases hu with rfl | rfl | rfl <;> rfl) (by omega) (by unfold maxLen; omega) (by omega) ?_
  intro g cap w' ho
  refine hK g cap w' ?_
  unfold eMoves
  rw [mcells_append]
  simpa [mcells, i64] using ho
/-- What is made midway. -/
def MrI (w1 wr : World) (gm gr : Nat) (L n : Int) (sv mvv fv : Value) (st : List Int) (ms : List Mv) (fn : List Int) : Prop :=
  Own w1 wr [eInts sv st, eMoves mvv ms, eInts fv fn, eNfa gm [.int .i64 L, .int .i64 n, sv, mvv, fv], eNfa gr zero5] []
theorem mrI_end {w1 wr w2 : World} {gm gr : Nat} {sv mvv fv : Value} {a : Nfa} (h : MrI w1 wr gm gr a.L a.n sv mvv fv a.st a.mv a.fin) (hg : Good a)
    (hw : w2 = ((((wr.setCell ⟨gr, 0, none⟩ (.int .i64 a.L)).setCell ⟨gr, 1, none⟩ (.int .i64 a.n)).setCell ⟨gr, 2, none⟩ sv).setCell ⟨gr, 3, none⟩ mvv).setCell ⟨gr, 4, none⟩ fv) :
    NfaOwn w1 w2 (.agg #[.int .i64 a.L, .int .i64 a.n, sv, mvv, fv]) a ∧ Below w1.heap.size w1 w2 ∧ w2.cell? ⟨gr, 0, none⟩ = some (.int .i64 a.L) ∧ w2.cell? ⟨gr, 1, none⟩ = some (.int .i64 a.n) ∧ w2.cell? ⟨gr, 2, none⟩ = some sv ∧ w2.cell? ⟨gr, 3, none⟩ = some mvv ∧ w2.cell? ⟨gr, 4, none⟩ = some fv := by
  obtain ⟨hend, k⟩ := into5 (h.pull 4 (by simp)) rfl (.int .i64 a.L) (.int .i64 a.n) sv mvv fv hw
  exact ⟨own_own hend (by simp) (by simp) (by simp) (good_nL hg).1 (good_nL hg).2 (good_st hg) (good_mvsmall hg) (good_fin hg), hend.below, k⟩
theorem mrI_gm {w1 wr : World} {gm gr : Nat} {L n : Int} {sv mvv fv : Value} {st : List Int} {ms : List Mv} {fn : List Int} (h : MrI w1 wr gm gr L n sv mvv fv st ms fn) {j : Nat} {u : Value} (hj : ([.int .i64 L, .int .i64 n, sv, mvv, fv] : List Value)[j]? = some u) : wr.cell? ⟨gm, j, none⟩ = some u ∧ wr.frozen? ⟨gm, j, none⟩ = false :=
  ncell h (g := gm) (l := [.int .i64 L, .int .i64 n, sv, mvv, fv]) (by simp) hj
theorem mrI_gr {w1 wr : World} {gm gr : Nat} {L n : Int} {sv mvv fv : Value} {st : List Int} {ms : List Mv} {fn : List Int} (h : MrI w1 wr gm gr L n sv mvv fv st ms fn) {j : Nat} {u : Value} (hj : zero5[j]? = some u) : wr.cell? ⟨gr, j, none⟩ = some u ∧ wr.frozen? ⟨gr, j, none⟩ = false :=
  ncell h (g := gr) (l := zero5) (by simp) hj
theorem mrI_form {w1 wr : World} {gm gr : Nat} {L n : Int} {sv mvv fv : Value} {st : List Int} {ms : List Mv} {fn : List Int} (h : MrI w1 wr gm gr L n sv mvv fv st ms fn) : ∃ A1 k1 n1 A2 k2 n2 A3 k3 n3, sv = .slice A1 n1 k1 ∧ mvv = .slice A2 n2 k2 ∧ fv = .slice A3 n3 k3 := by
  obtain ⟨A1, k1, h1, _⟩ := h.form (e := eInts sv st) (by simp)
  obtain ⟨A2, k2, h2, _⟩ := h.form (e := eMoves mvv ms) (by simp)
  obtain ⟨A3, k3, h3, _⟩ := h.form (e := eInts fv fn) (by simp)
  exact ⟨A1, k1, _, A2, k2, _, A3, k3, _, h1, h2, h3⟩
theorem take_snoc {α : Type} {l : List α} {k : Nat} (h : k < l.length) : l.take (k + 1) = l.take k ++ [l[k]] := List.take_succ_eq_append_getElem h
theorem take_map_snoc {l : List Mv} {k : Nat} (h : k < l.length) : (l.take (k + 1)).map turn = (l.take k).map turn ++ [turn l[k]] := by rw [take_snoc h, List.map_append]; rfl
end Go.Proofs.YtnlkkfcjonchgaaDoor.Nf

namespace Go.Proofs.YtnlkkfcjonchgaaDoor.Nf
open Go.RowKit Go.IntWalk Go.Proofs.YtnlkkfcjonchgaaDoor.Wd Go.Proofs.YtnlkkfcjonchgaaDoor.Wo Go.Proofs.YtnlkkfcjonchgaaDoor.Df

set_option linter.unusedSimpArgs false in
set_option maxRecDepth 100000 in
set_option maxHeartbeats 16000000 in
theorem rof_any (v : Value) (d : Aut) (w : World) (h : DfaAt w w.heap.size v d) (hg : Df.Good d) :
    Calls Tryd.prog 24 #[v] w fun e w' => Hid (∃ x, e = .returned x ∧ NfaOwn w w' x (ofA d)) ∧ Below w.heap.size w w' := by
  obtain ⟨L, s0, A, c, F, cf, rfl, h⟩ := h
  obtain ⟨w1, hw1, hB1, hX1, hd1⟩ := box_dfa w h
  have hs1 : w1.heap.size = w.heap.size + 1 := by rw [hw1]; simp
  have HB := Lib.hid hB1
  have HW := Lib.hid hw1
  have HX := Lib.hid hX1
  have HD := Lib.hid hd1
  have HG : Hid (Df.Good d) := hg
  have HE2 : Hid (d.L = L ∧ d.s = s0) := ⟨h.eL, h.es⟩
  obtain ⟨n, hn⟩ := Int.eq_ofNat_of_zero_le (show 0 ≤ L by have := hg.l1; have := HE2.out.1; omega)
  have HL : Hid (d.L = (n : Int) ∧ d.L.toNat = n) := ⟨by rw [HE2.out.1, hn], by rw [HE2.out.1, hn]; rfl⟩
  have hn6 : n ≤ 6 := by have := hg.l6; have := HL.out.1; omega
  have h40 := hg.n40
  have hfn := hg.fin
  subst hn
  have HO := own_nfa_new (own_nfa_new (own_start w1) (.int .i64 0) (.int .i64 0) (.slice none 0 0) (.slice none 0 0) (.slice none 0 0)) (.int .i64 (n : Int)) (.int .i64 (d.next.length : Int)) (.slice none 0 0) (.slice none 0 0) (.slice none 0 0)
  rw [show (w1.alloc (.cells #[.int .i64 0, .int .i64 0, .slice none 0 0, .slice none 0 0, .slice none 0 0] 56)).heap.size = w1.heap.size + 1 by simp] at HO
  have HO3 := ((HO.nil 3 1).nil 86 3).nil 3 1
  obtain ⟨gr, hgr⟩ : ∃ gr, gr = w.heap.size + 1 := ⟨_, rfl⟩
  obtain ⟨gm, hgm⟩ : ∃ gm, gm = gr + 1 := ⟨_, rfl⟩
  rw [hs1, ← hgr, ← hgm] at HO3
  obtain ⟨w3, hw3⟩ : ∃ w3, w3 = (w1.alloc (.cells #[.int .i64 0, .int .i64 0, .slice none 0 0, .slice none 0 0, .slice none 0 0] 56)).alloc (.cells #[.int .i64 (n : Int), .int .i64 (d.next.length : Int), .slice none 0 0, .slice none 0 0, .slice none 0 0] 56) := ⟨_, rfl⟩
  rw [← hw3] at HO3
  have HI1 : Hid (MrI w1 w3 gm gr (n : Int) (d.next.length : Int) (.slice none 0 0) (.slice none 0 0) (.slice none 0 0) [] [] []) := HO3
  have HS3 : Hid (w3.heap.size = gm + 1) := by rw [Hid, hw3, hgm, hgr]; simp [hs1]
  have HW3 := Lib.hid hw3
  have hc0 := hX1.c0
  have hc1 := hX1.c1
  have hc2 := hX1.c2
  have hbl3 := Lib.hid HO3.below
  have hk1 := (HX.out.on HO3.below).c1
  obtain ⟨hg2, hf2⟩ := mrI_gm HI1.out (j := 2) rfl
  clear h hw1 hB1 hs1 hX1 hd1 HO HO3 hw3 hg
  generalize hN : d.next.length = N at *
  have HN := Lib.hid hN
  generalize hm : d.fin.length = m at *
  have HM0 := Lib.hid hm
  clear hN hm
  have HFN := Lib.hid hfn
  clear hfn
  obtain ⟨gb, hgb⟩ : ∃ gb, gb = w.heap.size := ⟨_, rfl⟩
  rw [← hgb] at HX hgr
  have HGb := Lib.hid hgb
  have HGr := Lib.hid hgr
  have HGm := Lib.hid hgm
  clear hgb hgr hgm hk1 hg2 hf2
  go_enter Tryd.func24, Tryd.ntmps24
  have hk1 := (HX.out.on hbl3.out).c1
  rw [HGb.out] at hk1
  obtain ⟨hg2, hf2⟩ := mrI_gm HI1.out (j := 2) rfl
  rw [HGm.out, HGr.out, HGb.out] at hg2 hf2
  go_wp2_with (at_builtin; rw [← HW.out, ← HGb.out, ← HGr.out, ← HGm.out, ← HW3.out]; refine own_int (y := s0) (by rfl) _ _ (by rfl) (by rfl) HI1.out (by rw [HS3.out]; rfl) (by decide) ?_)
  intro g4 cap4 w4 ho4
  clear hc0 hc1 hc2 hk1 hg2 hf2
  obtain ⟨hg2, hf2⟩ := ncell ho4 (g := gm) (l := [.int .i64 (n : Int), .int .i64 (N : Int), .slice none 0 0, .slice none 0 0, .slice none 0 0]) (j := 2) (by simp) rfl
  have HI2 : Hid (∃ v, MrI w1 (w4.setCell ⟨gm, 2, none⟩ (.slice (some ⟨g4, 0, none⟩) (0 + 1) cap4)) gm gr (n : Int) (N : Int) (.slice (some ⟨g4, 0, none⟩) (0 + 1) cap4) v (.slice none 0 0) [s0] (mvTo d 0) (finTo d 0)) :=
    ⟨_, (nset (ho4.re [3, 0, 1, 2, 4] 5 rfl (by decide)) 2 (.slice (some ⟨g4, 0, none⟩) (0 + 1) cap4)).re [1, 2, 3, 0, 4] 5 rfl (by decide)⟩
  clear ho4 HI1 hbl3
  go_wp2
  clear hg2 hf2 HW HW3
  generalize w4.setCell ⟨gm, 2, none⟩ (.slice (some ⟨g4, 0, none⟩) (0 + 1) cap4) = w5 at *
  generalize (Value.slice (some ⟨g4, 0, none⟩) (0 + 1) cap4) = sv at *
  go_loopw [4] (fun i wr => ∃ (k : Nat), k ≤ N ∧ i = .int .i64 k ∧ Hid (∃ v, MrI w1 wr gm gr (n : Int) (N : Int) sv v (.slice none 0 0) [s0] (mvTo d k) (finTo d 0))) (fun i _ => N - (intOf i).toNat)
  case atStart => exact ⟨0, by omega, rfl, HI2⟩
  case round =>
    clear HI2
    obtain ⟨k, hk, rfl, HI⟩ := hrel
    obtain ⟨v0, hmo⟩ := HI.out
    have hcb := (HX.out.on hmo.below).c2
    by_cases hlt : k < N
    · obtain ⟨r0, hr0, _, hrl, _, _⟩ := HG.out.at_ (q := k) (a := 0) (by rw [HN.out]; exact hlt) (by have := HL.out.1; have := HG.out.l1; omega)
      have hrln : r0.length = n := by have := HL.out.1; omega
      obtain ⟨ad, A', c9, e, hadb, hcell, hrc, hcc, hri⟩ := HD.out.rows k r0 hr0
      subst e
      rw [hrln] at hcell
      have HCell := Lib.hid hcell
      have HRow := Lib.hid hri
      have HR0 := Lib.hid hr0
      have HMy : Hid (∃ v, MrI w1 wr gm gr (n : Int) (N : Int) sv v (.slice none 0 0) [s0] (mvTo d k ++ mvRow d k 0) (finTo d 0)) := ⟨v0, by rw [mvRow_zero, List.append_nil]; exact hmo⟩
      have e2 : (k : Int) < (N : Int) := by omega
      clear hri hr0 hrl hrln hcell hmo HI
      go_wp2
      clear hcb
      go_loopw [5] (fun i wi => ∃ (q : Nat), q ≤ n ∧ i = .int .i64 q ∧ Hid (∃ v, MrI w1 wi gm gr (n : Int) (N : Int) sv v (.slice none 0 0) [s0] (mvTo d k ++ mvRow d k q) (finTo d 0))) (fun i _ => n - (intOf i).toNat)
      case atStart => exact ⟨0, by omega, rfl, HMy⟩
      case round =>
        clear HMy
        obtain ⟨q, hq, rfl, HI⟩ := hrel
        obtain ⟨v0, hmo⟩ := HI.out
        have hcb := (HX.out.on hmo.below).c0
        by_cases hqn : q < n
        · obtain ⟨r1, hr1, _, _, hra, _⟩ := HG.out.at_ (q := k) (a := q) (by rw [HN.out]; exact hlt) (by have := HL.out.1; omega)
          obtain rfl := Option.some.inj (HR0.out.symm.trans hr1)
          obtain ⟨ad3, e3, hadb3, hcell3, _⟩ := HRow.out.get hra
          subst e3
          have HNx : Hid (mvTo d k ++ mvRow d k (q + 1) = (mvTo d k ++ mvRow d k q) ++ [((k : Int), (q : Int), ((Df.step d k q : Nat) : Int))]) := by rw [Hid, mvRow_succ, List.append_assoc]
          have hlen : (mvTo d k ++ mvRow d k q).length < 1099511627776 := by
            rw [List.length_append, mvTo_len, mvRow_len, HL.out.2]
            have : k * n ≤ 40 * 6 := Nat.mul_le_mul (by omega) hn6
            omega
          have HMa := Lib.hid hmo
          have HMb := Lib.hid (hmo.re [1, 0, 2, 3, 4] 5 rfl (by decide))
          clear hr1 hra hmo HI
          generalize Df.step d k q = sk at *
          have HK : Hid (∀ W es fs, Own w1 W es fs → eNfa gm [.int .i64 (n : Int), .int .i64 (N : Int), sv, v0, .slice none 0 0] ∈ es ++ fs → W.cell? ⟨gm, 3, none⟩ = some v0 ∧ W.cell? ⟨gb, 2, none⟩ = some (.slice (some ad) N c) ∧ W.cell? (ad.add k) = some (.slice (some ad3) n c9) ∧ W.cell? (ad3.add q) = some (.int .i64 (sk : Int))) := fun W es fs hW hm => ⟨(ncell hW hm (j := 3) rfl).1, (HX.out.on hW.below).c2, (hW.below.cell (p := ad.add k) (by rw [Wd.block_add]; exact hadb)).trans HCell.out, (hW.below.cell (p := ad3.add q) (by rw [Wd.block_add]; exact hadb3)).trans hcell3⟩
          have e4 : (q : Int) < (n : Int) := by omega
          clear hcell3
          generalize mvTo d k ++ mvRow d k q = ms at *
          go_wp2
          clear hcb
          refine wp_region_Z ((fun W => W.cell? ⟨gm, 3, none⟩ = some v0 ∧ W.cell? ⟨gb, 2, none⟩ = some (.slice (some ad) N c) ∧ W.cell? (ad.add k) = some (.slice (some ad3) n c9) ∧ W.cell? (ad3.add q) = some (.int .i64 (sk : Int)))) 16 (by kernel_rfl) (HK.out _ _ _ (HMb.out.on (Below.refl _ _).drew) (by simp)) (fun hHeld => ?_)
          refine wpZ_take (i := 0) (v := ?_) rfl (by kernel_rfl) (by kernel_rfl) (by kernel_rfl) (by kernel_rfl) (fun _ _ _ h => h) (Or.inl ⟨by rfl, ?_⟩) hHeld ?_
          rotate_left
          · (go_light; intro w9 hSw; (try dsimp only at hSw); go_simp; try with_reducible rfl)
          try simp only [Act.put, List.setIfInBounds_toArray, List.set_cons_zero, List.set_cons_succ]
          refine wpZ_take (i := 1) (v := ?_) rfl (by kernel_rfl) (by kernel_rfl) (by kernel_rfl) (by kernel_rfl) (fun _ _ _ h => h) (Or.inl ⟨by rfl, ?_⟩) hHeld ?_
          rotate_left
          · (go_light; intro w9 hSw; (try dsimp only at hSw); go_simp; try with_reducible rfl)
          try simp only [Act.put, List.setIfInBounds_toArray, List.set_cons_zero, List.set_cons_succ]
          refine wpZ_take (i := 2) (v := ?_) rfl (by kernel_rfl) (by kernel_rfl) (by kernel_rfl) (by kernel_rfl) (fun _ _ _ h => h) (Or.inl ⟨by rfl, ?_⟩) hHeld ?_
          rotate_left
          · (go_light; intro w9 hSw; (try dsimp only at hSw); go_simp; try with_reducible rfl)
          try simp only [Act.put, List.setIfInBounds_toArray, List.set_cons_zero, List.set_cons_succ]
          refine wpZ_take (i := 3) (v := ?_) rfl (by kernel_rfl) (by kernel_rfl) (by kernel_rfl) (by kernel_rfl) (fun _ _ _ h => h) (Or.inl ⟨by rfl, ?_⟩) hHeld ?_
          rotate_left
          · (go_light; intro w9 hSw; (try dsimp only at hSw); go_simp; try with_reducible rfl)
          try simp only [Act.put, List.setIfInBounds_toArray, List.set_cons_zero, List.set_cons_succ]
          refine wpZ_take (i := 4) (v := ?_) rfl (by kernel_rfl) (by kernel_rfl) (by kernel_rfl) (by kernel_rfl) (fun _ _ _ h => h) (Or.inl ⟨by rfl, ?_⟩) hHeld ?_
          rotate_left
          · (go_light; intro w9 hSw; (try dsimp only at hSw); go_simp; try with_reducible rfl)
          try simp only [Act.put, List.setIfInBounds_toArray, List.set_cons_zero, List.set_cons_succ]
          refine wpZ_take (i := 5) (v := ?_) rfl (by kernel_rfl) (by kernel_rfl) (by kernel_rfl) (by kernel_rfl) (fun _ _ _ h => h) (Or.inl ⟨by rfl, ?_⟩) hHeld ?_
          rotate_left
          · (go_light; intro w9 hSw; (try dsimp only at hSw); go_simp; try with_reducible rfl)
          try simp only [Act.put, List.setIfInBounds_toArray, List.set_cons_zero, List.set_cons_succ]
          refine wpZ_take (i := 6) (v := ?_) rfl (by kernel_rfl) (by kernel_rfl) (by kernel_rfl) (by kernel_rfl) (fun _ _ _ h => h) (Or.inl ⟨by rfl, ?_⟩) hHeld ?_
          rotate_left
          · (go_light; intro w9 hSw; (try dsimp only at hSw); go_simp; try with_reducible rfl)
          try simp only [Act.put, List.setIfInBounds_toArray, List.set_cons_zero, List.set_cons_succ]
          refine wpZ_take (i := 7) (v := ?_) rfl (by kernel_rfl) (by kernel_rfl) (by kernel_rfl) (by kernel_rfl) (fun _ _ _ h => h) (Or.inl ⟨by rfl, ?_⟩) hHeld ?_
          rotate_left
          · (go_light; intro w9 hSw; (try dsimp only at hSw); go_simp; try with_reducible rfl)
          try simp only [Act.put, List.setIfInBounds_toArray, List.set_cons_zero, List.set_cons_succ]
          refine wpZ_take (i := 8) (v := ?_) rfl (by kernel_rfl) (by kernel_rfl) (by kernel_rfl) (by kernel_rfl) (fun _ _ _ h => h) (Or.inl ⟨by rfl, ?_⟩) hHeld ?_
          rotate_left
          · (go_light; intro w9 hSw; (try dsimp only at hSw); go_simp; try with_reducible rfl)
          try simp only [Act.put, List.setIfInBounds_toArray, List.set_cons_zero, List.set_cons_succ]
          refine wpZ_take (i := 9) (v := ?_) rfl (by kernel_rfl) (by kernel_rfl) (by kernel_rfl) (by kernel_rfl) (fun _ _ _ h => h) (Or.inl ⟨by rfl, ?_⟩) hHeld ?_
          rotate_left
          · (go_light; intro w9 hSw; (try dsimp only at hSw); go_simp; try with_reducible rfl)
          try simp only [Act.put, List.setIfInBounds_toArray, List.set_cons_zero, List.set_cons_succ]
          refine wpZ_take (i := 10) (v := ?_) rfl (by kernel_rfl) (by kernel_rfl) (by kernel_rfl) (by kernel_rfl) (fun _ _ _ h => h) (Or.inl ⟨by rfl, ?_⟩) hHeld ?_
          rotate_left
          · (go_light; intro w9 hSw; (try dsimp only at hSw); go_simp; try with_reducible rfl)
          try simp only [Act.put, List.setIfInBounds_toArray, List.set_cons_zero, List.set_cons_succ]
          refine wpZ_take (i := 11) (v := ?_) rfl (by kernel_rfl) (by kernel_rfl) (by kernel_rfl) (by kernel_rfl) (fun _ _ _ h => h) (Or.inl ⟨by rfl, ?_⟩) hHeld ?_
          rotate_left
          · (go_light; intro w9 hSw; (try dsimp only at hSw); go_simp; try with_reducible rfl)
          try simp only [Act.put, List.setIfInBounds_toArray, List.set_cons_zero, List.set_cons_succ]
          refine wpZ_take (i := 12) (v := ?_) rfl (by kernel_rfl) (by kernel_rfl) (by kernel_rfl) (by kernel_rfl) (fun _ _ _ h => h) (Or.inl ⟨by rfl, ?_⟩) hHeld ?_
          rotate_left
          · (go_light; intro w9 hSw; (try dsimp only at hSw); go_simp; try with_reducible rfl)
          try simp only [Act.put, List.setIfInBounds_toArray, List.set_cons_zero, List.set_cons_succ]
          refine wpZ_one (i := 13) rfl (by kernel_rfl) (fun K hK => ?_)
          go_simp
          refine hK.out _ _ (fun _ => HK.out _ _ _ (HMb.out.on (by go_grown)) (by simp)) (fun hHeld9 => ?_)
          replace hHeld := hHeld9 (by decide)
          clear hHeld9
          clear hK K
          try simp only [Act.put, List.setIfInBounds_toArray, List.set_cons_zero, List.set_cons_succ]
          refine wpZ_one (i := 14) rfl (by kernel_rfl) (fun K hK => ?_)
          refine step_own_move (m := ((k : Int), (q : Int), (sk : Int))) (by rfl) _ _ (by rfl) (by rfl) (HMb.out.on (Below.refl _ _).drew) (by rfl) hlen ?_
          intro g6 cap6 w6 ho6
          refine hK.out _ _ (fun _ => HK.out _ _ _ ho6 (by simp)) (fun hHeld9 => ?_)
          replace hHeld := hHeld9 (by decide)
          clear hHeld9
          clear hK K
          try simp only [Act.put, List.setIfInBounds_toArray, List.set_cons_zero, List.set_cons_succ]
          refine wpZ_take (i := 15) (v := ?_) rfl (by kernel_rfl) (by kernel_rfl) (by kernel_rfl) (by kernel_rfl) (fun _ _ _ h => h) (Or.inl ⟨by rfl, ?_⟩) hHeld ?_
          rotate_left
          · (go_light; intro w9 hSw; (try dsimp only at hSw); go_simp; try with_reducible rfl)
          try simp only [Act.put, List.setIfInBounds_toArray, List.set_cons_zero, List.set_cons_succ]
          refine wpZ_one (i := 16) rfl (by kernel_rfl) (fun K hK => ?_)
          obtain ⟨hk3, hk4⟩ := ncell ho6 (g := gm) (l := [.int .i64 (n : Int), .int .i64 (N : Int), sv, v0, .slice none 0 0]) (j := 3) (by simp) rfl
          go_simp
          refine hK.out _ _ (fun k => absurd rfl k) (fun _ => ?_)
          clear hK K
          try simp only [Act.put, List.setIfInBounds_toArray, List.set_cons_zero, List.set_cons_succ]
          refine wpZ_done (by kernel_rfl) ?_ _
          have HN1 : Hid (∃ v, MrI w1 (w6.setCell ⟨gm, 3, none⟩ (.slice (some ⟨g6, 0, none⟩) (ms.length + 1) cap6)) gm gr (n : Int) (N : Int) sv v (.slice none 0 0) [s0] (mvTo d k ++ mvRow d k (q + 1)) (finTo d 0)) := by
            refine ⟨.slice (some ⟨g6, 0, none⟩) (ms.length + 1) cap6, ?_⟩
            rw [HNx.out]
            exact (nset (ho6.re [3, 0, 1, 2, 4] 5 rfl (by decide)) 3 (.slice (some ⟨g6, 0, none⟩) (ms.length + 1) cap6)).re [2, 1, 3, 0, 4] 5 rfl (by decide)
          clear ho6 HK HMb HMa hk3 hk4 hHeld
          go_wp2
          go_roundw
          case rel => exact ⟨q + 1, by omega, by go_num, HN1⟩
          case measure => simp [intOf]; omega
        · have hqe : q = n := by omega
          have HN1 : Hid (∃ v, MrI w1 wr gm gr (n : Int) (N : Int) sv v (.slice none 0 0) [s0] (mvTo d (k + 1)) (finTo d 0)) := by
            refine ⟨v0, ?_⟩
            rw [mvTo_succ, HL.out.2]
            have q2 := hmo
            rw [hqe] at q2
            exact q2
          subst hqe
          clear hmo HI
          go_wp2
          go_roundw
          case rel => exact ⟨k + 1, by omega, by go_num, HN1⟩
          case measure => simp [intOf]; omega
    · obtain rfl : k = N := by omega
      have HI3 : Hid (∃ f, MrI w1 wr gm gr (n : Int) (k : Int) sv v0 f [s0] (mvTo d k) (finTo d 0)) := ⟨_, hmo⟩
      clear hmo HI
      go_wp2
      clear hcb
      go_loopw [6] (fun i wr => ∃ (j : Nat), j ≤ k ∧ i = .int .i64 j ∧ Hid (∃ f, MrI w1 wr gm gr (n : Int) (k : Int) sv v0 f [s0] (mvTo d k) (finTo d j))) (fun i _ => k - (intOf i).toNat)
      case atStart => exact ⟨0, by omega, rfl, HI3⟩
      case round =>
        clear HI3
        obtain ⟨j, hj, rfl, HI⟩ := hrel
        obtain ⟨f0, hmo⟩ := HI.out
        have hcb := (HX.out.on hmo.below).c2
        have hcf := (HX.out.on hmo.below).c3
        by_cases hlt : j < k
        · have hfin := HG.out.fin_at (q := j) (by rw [HN.out]; exact hlt)
          obtain ⟨adf, eF, hadf, hcfi, hfm⟩ := HD.out.fins.at_ hfin
          subst eF
          rw [HM0.out] at hfm
          have hcw := (hmo.below.cell (p := adf.add j) (by rw [Wd.block_add]; exact hadf)).trans hcfi
          have e1 : (j : Int) < (m : Int) := by have := HFN.out; omega
          have e2 : (j : Int) < (k : Int) := by omega
          have hlf : (finTo d j).length < 17592186044416 := by have := finTo_len d j; omega
          have HMa := Lib.hid hmo
          obtain ⟨hg4, hg4f⟩ := mrI_gm hmo (j := 4) rfl
          clear hcfi hfin hadf hmo HI
          generalize hb : finA d j = b at *
          rcases b with _ | _
          · have HFt := Lib.hid (finTo_miss hb)
            have HN1 : Hid (∃ f, MrI w1 wr gm gr (n : Int) (k : Int) sv v0 f [s0] (mvTo d k) (finTo d (j + 1))) := ⟨f0, by rw [HFt.out]; exact HMa.out⟩
            clear HMa hb hg4 hg4f
            go_wp2
            go_roundw
            case rel => exact ⟨j + 1, by omega, by go_num, HN1⟩
            case measure => simp [intOf]; omega
          · have HFt := Lib.hid (finTo_hit hb)
            have HMb := Lib.hid (HMa.out.re [2, 0, 1, 3, 4] 5 rfl (by decide))
            clear hb HMa
            generalize finTo d j = fs at *
            go_wp2_with (at_builtin; refine own_int (y := (j : Int)) (by rfl) _ _ (by rfl) (by rfl) HMb.out (by rfl) hlf ?_)
            intro g8 cap8 w8 ho8
            obtain ⟨hk8, hf8⟩ := ncell ho8 (g := gm) (l := [.int .i64 (n : Int), .int .i64 (k : Int), sv, v0, f0]) (j := 4) (by simp) rfl
            have HN1 : Hid (∃ f, MrI w1 (w8.setCell ⟨gm, 4, none⟩ (.slice (some ⟨g8, 0, none⟩) (fs.length + 1) cap8)) gm gr (n : Int) (k : Int) sv v0 f [s0] (mvTo d k) (finTo d (j + 1))) := by
              refine ⟨.slice (some ⟨g8, 0, none⟩) (fs.length + 1) cap8, ?_⟩
              rw [HFt.out]
              exact (nset (ho8.re [3, 0, 1, 2, 4] 5 rfl (by decide)) 4 (.slice (some ⟨g8, 0, none⟩) (fs.length + 1) cap8)).re [2, 3, 1, 0, 4] 5 rfl (by decide)
            clear ho8 HMb hg4 hg4f hcw hcf hcb
            go_wp2
            go_roundw
            case rel => exact ⟨j + 1, by omega, by go_num, HN1⟩
            case measure => simp [intOf]; omega
        · obtain rfl : j = k := by omega
          have hOf : ofA d = ⟨(n : Int), (j : Int), [s0], mvTo d j, finTo d j⟩ := by rw [ofA_to, HL.out.1, HE2.out.2, HN.out]
          obtain ⟨A1, k1, n1, A2, k2, n2, A3, k3, n3, e1, e2, e3⟩ := mrI_form hmo
          subst e1 e2 e3
          obtain ⟨hg0, _⟩ := mrI_gm hmo (j := 0) rfl
          obtain ⟨hr0, hf0⟩ := mrI_gr hmo (j := 0) rfl
          obtain ⟨hg1, _⟩ := mrI_gm hmo (j := 1) rfl
          obtain ⟨hr1, hf1⟩ := mrI_gr hmo (j := 1) rfl
          obtain ⟨hg2, _⟩ := mrI_gm hmo (j := 2) rfl
          obtain ⟨hr2, hf2⟩ := mrI_gr hmo (j := 2) rfl
          obtain ⟨hg3, _⟩ := mrI_gm hmo (j := 3) rfl
          obtain ⟨hr3, hf3⟩ := mrI_gr hmo (j := 3) rfl
          obtain ⟨hg4, _⟩ := mrI_gm hmo (j := 4) rfl
          obtain ⟨hr4, hf4⟩ := mrI_gr hmo (j := 4) rfl
          have HEnd := Lib.hid (mrI_end (a := ofA d) (by rw [hOf]; exact hmo) (of_good HG.out) rfl)
          rw [show (ofA d).L = (n : Int) from by rw [hOf], show (ofA d).n = (j : Int) from by rw [hOf]] at HEnd
          clear hmo HI hcf hOf
          go_wp2
          obtain ⟨hat, hbl, k0, k1, k2, k3, k4⟩ := HEnd.out
          exact bodyPost_ret (results_nfa1 rfl _ rfl k0 k1 k2 k3 k4) rfl ⟨⟨_, rfl, hat.base HB.out⟩, HB.out.trans (hbl.mono HB.out.size)⟩
end Go.Proofs.YtnlkkfcjonchgaaDoor.Nf

namespace Go.Proofs.YtnlkkfcjonchgaaDoor.Nf
open Go.RowKit Go.IntWalk Go.Proofs.YtnlkkfcjonchgaaDoor.Wd Go.Proofs.YtnlkkfcjonchgaaDoor.Wo Go.Proofs.YtnlkkfcjonchgaaDoor.Df

set_option linter.unusedSimpArgs false in
set_option maxRecDepth 100000 in
set_option maxHeartbeats 16000000 in
theorem rmir_any (v : Value) (a : Nfa) (w : World) (h : NfaAt w w.heap.size v a) (hg : Good a) :
    Calls Tryd.prog 23 #[v] w fun e w' => Hid (∃ x, e = .returned x ∧ NfaOwn w w' x (mir a)) ∧ Below w.heap.size w w' := by
  obtain ⟨L, n, A, ca, M, cm, F, cf, rfl, h⟩ := h
  obtain ⟨w1, hw1, hB1, hs1, hX1, hd1⟩ := box_nfa w h
  have HB := Lib.hid hB1
  have HW := Lib.hid hw1
  have HX := Lib.hid hX1
  have HD := Lib.hid hd1
  have HG : Hid (Good a) := hg
  have HE2 : Hid (a.L = L ∧ a.n = n) := ⟨h.eL, h.en⟩
  have hm240 := hg.m240
  have hs40 := hg.s40
  have hf40 := hg.f40
  have HO := own_nfa_new (own_nfa_new (own_start w1) (.int .i64 0) (.int .i64 0) (.slice none 0 0) (.slice none 0 0) (.slice none 0 0)) (.int .i64 L) (.int .i64 n) (.slice none 0 0) (.slice none 0 0) (.slice none 0 0)
  rw [show (w1.alloc (.cells #[.int .i64 0, .int .i64 0, .slice none 0 0, .slice none 0 0, .slice none 0 0] 56)).heap.size = w1.heap.size + 1 by simp] at HO
  have HO3 := ((HO.nil 3 1).nil 86 3).nil 3 1
  obtain ⟨gr, hgr⟩ : ∃ gr, gr = w.heap.size + 1 := ⟨_, rfl⟩
  obtain ⟨gm, hgm⟩ : ∃ gm, gm = gr + 1 := ⟨_, rfl⟩
  rw [hs1, ← hgr, ← hgm] at HO3
  obtain ⟨w3, hw3⟩ : ∃ w3, w3 = (w1.alloc (.cells #[.int .i64 0, .int .i64 0, .slice none 0 0, .slice none 0 0, .slice none 0 0] 56)).alloc (.cells #[.int .i64 L, .int .i64 n, .slice none 0 0, .slice none 0 0, .slice none 0 0] 56) := ⟨_, rfl⟩
  rw [← hw3] at HO3
  have HI1 : Hid (∃ v, MrI w1 w3 gm gr L n v (.slice none 0 0) (.slice none 0 0) (a.fin.take 0) [] []) := ⟨_, HO3⟩
  have HW3 := Lib.hid hw3
  have hc0 := hX1.c0
  have hc1 := hX1.c1
  clear h hw1 hB1 hs1 hX1 hd1 HO HO3 hw3 hg
  generalize hks : a.st.length = ks at *
  have HS2 := Lib.hid hks
  generalize hkm : a.mv.length = km at *
  have HS3 := Lib.hid hkm
  generalize hkf : a.fin.length = kf at *
  have HS1 := Lib.hid hkf
  clear hks hkm hkf
  obtain ⟨gb, hgb⟩ : ∃ gb, gb = w.heap.size := ⟨_, rfl⟩
  rw [← hgb] at HX hgr hc0 hc1
  go_enter Tryd.func23, Tryd.ntmps23
  rw [hgb] at hc0 hc1
  have HGb := Lib.hid hgb
  have HGr := Lib.hid hgr
  have HGm := Lib.hid hgm
  clear hgb hgr hgm
  go_wp2
  rw [← HW.out, ← HGb.out, ← HGr.out, ← HGm.out, ← HW3.out]
  clear HW HW3 hc0 hc1 HGb HGr HGm
  go_loopw [4] (fun i wr => ∃ (k : Nat), k ≤ kf ∧ i = .int .i64 k ∧ Hid (∃ v, MrI w1 wr gm gr L n v (.slice none 0 0) (.slice none 0 0) (a.fin.take k) [] [])) (fun i _ => kf - (intOf i).toNat)
  case atStart => exact ⟨0, by omega, rfl, HI1⟩
  case round =>
    clear HI1
    obtain ⟨k, hk, rfl, HI⟩ := hrel
    obtain ⟨v0, hmo⟩ := HI.out
    have HM := Lib.hid hmo
    have hcb := (HX.out.on hmo.below).c4
    by_cases hlt : k < kf
    · as_aux_lemma =>
      have hlt' : k < a.fin.length := by rw [HS1.out]; exact hlt
      obtain ⟨ad, e, hadb, hcell, _⟩ := HD.out.fin.get (List.getElem?_eq_getElem hlt')
      subst e
      have HSn := Lib.hid (take_snoc hlt')
      have HLn : Hid ((a.fin.take k).length < 17592186044416) := by rw [Hid, List.length_take]; omega
      generalize a.fin[k] = x at *
      clear hmo HI
      have HK : Hid (∀ W es fs, Own w1 W es fs → eNfa gm [.int .i64 L, .int .i64 n, v0, .slice none 0 0, .slice none 0 0] ∈ es ++ fs → W.cell? ⟨gm, 2, none⟩ = some v0 ∧ W.cell? ⟨gb, 4, none⟩ = some (.slice (some ad) kf cf) ∧ W.cell? (ad.add k) = some (.int .i64 x)) := fun W es fs hW hm => ⟨(ncell hW hm (j := 2) rfl).1, (HX.out.on hW.below).c4, (hW.below.cell (p := ad.add k) (by rw [Wd.block_add]; exact hadb)).trans hcell⟩
      have e3 : (k : Int) < (kf : Int) := by omega
      have HMb := Lib.hid (HM.out)
      clear hcell
      generalize a.fin.take k = ls at *
      go_wp2
      clear hcb
      refine wp_region_Z ((fun W => W.cell? ⟨gm, 2, none⟩ = some v0 ∧ W.cell? ⟨gb, 4, none⟩ = some (.slice (some ad) kf cf) ∧ W.cell? (ad.add k) = some (.int .i64 x))) 10 (by kernel_rfl) (HK.out _ _ _ (HMb.out.on (Below.refl _ _).drew) (by simp)) (fun hHeld => ?_)
      refine wpZ_take (i := 0) (v := ?_) rfl (by kernel_rfl) (by kernel_rfl) (by kernel_rfl) (by kernel_rfl) (fun _ _ _ h => h) (Or.inl ⟨by rfl, ?_⟩) hHeld ?_
      rotate_left
      · (go_light; intro w9 hSw; (try dsimp only at hSw); go_simp; try with_reducible rfl)
      try simp only [Act.put, List.setIfInBounds_toArray, List.set_cons_zero, List.set_cons_succ]
      refine wpZ_take (i := 1) (v := ?_) rfl (by kernel_rfl) (by kernel_rfl) (by kernel_rfl) (by kernel_rfl) (fun _ _ _ h => h) (Or.inl ⟨by rfl, ?_⟩) hHeld ?_
      rotate_left
      · (go_light; intro w9 hSw; (try dsimp only at hSw); go_simp; try with_reducible rfl)
      try simp only [Act.put, List.setIfInBounds_toArray, List.set_cons_zero, List.set_cons_succ]
      refine wpZ_take (i := 2) (v := ?_) rfl (by kernel_rfl) (by kernel_rfl) (by kernel_rfl) (by kernel_rfl) (fun _ _ _ h => h) (Or.inl ⟨by rfl, ?_⟩) hHeld ?_
      rotate_left
      · (go_light; intro w9 hSw; (try dsimp only at hSw); go_simp; try with_reducible rfl)
      try simp only [Act.put, List.setIfInBounds_toArray, List.set_cons_zero, List.set_cons_succ]
      refine wpZ_take (i := 3) (v := ?_) rfl (by kernel_rfl) (by kernel_rfl) (by kernel_rfl) (by kernel_rfl) (fun _ _ _ h => h) (Or.inl ⟨by rfl, ?_⟩) hHeld ?_
      rotate_left
      · (go_light; intro w9 hSw; (try dsimp only at hSw); go_simp; try with_reducible rfl)
      try simp only [Act.put, List.setIfInBounds_toArray, List.set_cons_zero, List.set_cons_succ]
      refine wpZ_take (i := 4) (v := ?_) rfl (by kernel_rfl) (by kernel_rfl) (by kernel_rfl) (by kernel_rfl) (fun _ _ _ h => h) (Or.inl ⟨by rfl, ?_⟩) hHeld ?_
      rotate_left
      · (go_light; intro w9 hSw; (try dsimp only at hSw); go_simp; try with_reducible rfl)
      try simp only [Act.put, List.setIfInBounds_toArray, List.set_cons_zero, List.set_cons_succ]
      refine wpZ_take (i := 5) (v := ?_) rfl (by kernel_rfl) (by kernel_rfl) (by kernel_rfl) (by kernel_rfl) (fun _ _ _ h => h) (Or.inl ⟨by rfl, ?_⟩) hHeld ?_
      rotate_left
      · (go_light; intro w9 hSw; (try dsimp only at hSw); go_simp; try with_reducible rfl)
      try simp only [Act.put, List.setIfInBounds_toArray, List.set_cons_zero, List.set_cons_succ]
      refine wpZ_take (i := 6) (v := ?_) rfl (by kernel_rfl) (by kernel_rfl) (by kernel_rfl) (by kernel_rfl) (fun _ _ _ h => h) (Or.inl ⟨by rfl, ?_⟩) hHeld ?_
      rotate_left
      · (go_light; intro w9 hSw; (try dsimp only at hSw); go_simp; try with_reducible rfl)
      try simp only [Act.put, List.setIfInBounds_toArray, List.set_cons_zero, List.set_cons_succ]
      refine wpZ_one (i := 7) rfl (by kernel_rfl) (fun K hK => ?_)
      go_simp
      refine hK.out _ _ (fun _ => HK.out _ _ _ (HMb.out.on (by go_grown)) (by simp)) (fun hHeld9 => ?_)
      replace hHeld := hHeld9 (by decide)
      clear hHeld9
      clear hK K
      try simp only [Act.put, List.setIfInBounds_toArray, List.set_cons_zero, List.set_cons_succ]
      refine wpZ_one (i := 8) rfl (by kernel_rfl) (fun K hK => ?_)
      refine step_own_int (y := x) (by rfl) _ _ (by rfl) (by rfl) (HMb.out.on (Below.refl _ _).drew) (by rfl) HLn.out ?_
      intro g6 cap6 w6 ho6
      refine hK.out _ _ (fun _ => HK.out _ _ _ ho6 (by simp)) (fun hHeld9 => ?_)
      replace hHeld := hHeld9 (by decide)
      clear hHeld9
      clear hK K
      try simp only [Act.put, List.setIfInBounds_toArray, List.set_cons_zero, List.set_cons_succ]
      refine wpZ_take (i := 9) (v := ?_) rfl (by kernel_rfl) (by kernel_rfl) (by kernel_rfl) (by kernel_rfl) (fun _ _ _ h => h) (Or.inl ⟨by rfl, ?_⟩) hHeld ?_
      rotate_left
      · (go_light; intro w9 hSw; (try dsimp only at hSw); go_simp; try with_reducible rfl)
      try simp only [Act.put, List.setIfInBounds_toArray, List.set_cons_zero, List.set_cons_succ]
      refine wpZ_one (i := 10) rfl (by kernel_rfl) (fun K hK => ?_)
      obtain ⟨hk3, hk4⟩ := ncell ho6 (g := gm) (l := [.int .i64 L, .int .i64 n, v0, .slice none 0 0, .slice none 0 0]) (j := 2) (by simp) rfl
      go_simp
      refine hK.out _ _ (fun k => absurd rfl k) (fun _ => ?_)
      clear hK K
      try simp only [Act.put, List.setIfInBounds_toArray, List.set_cons_zero, List.set_cons_succ]
      refine wpZ_done (by kernel_rfl) ?_ _
      have HN1 : Hid (∃ v, MrI w1 (w6.setCell ⟨gm, 2, none⟩ (.slice (some ⟨g6, 0, none⟩) (ls.length + 1) cap6)) gm gr L n v (.slice none 0 0) (.slice none 0 0) (a.fin.take (k + 1)) [] []) := by
        refine ⟨(.slice (some ⟨g6, 0, none⟩) (ls.length + 1) cap6), ?_⟩
        rw [HSn.out]
        exact (nset (ho6.re [3, 0, 1, 2, 4] 5 rfl (by decide)) 2 (.slice (some ⟨g6, 0, none⟩) (ls.length + 1) cap6)).re [1, 2, 3, 0, 4] 5 rfl (by decide)
      clear ho6 HK HMb HM hk3 hk4 hHeld
      go_wp2
      go_roundw
      case rel => exact ⟨k + 1, by omega, by go_num, HN1⟩
      case measure => simp [intOf]; omega
    · obtain rfl : k = kf := by omega
      have HT : Hid (a.fin.take k = a.fin) := List.take_of_length_le (by rw [HS1.out]; exact Nat.le_refl _)
      rw [HT.out] at hmo
      obtain ⟨sv, hsv⟩ : ∃ x, x = v0 := ⟨_, rfl⟩
      rw [← hsv] at hmo
      have HI2 : Hid (∃ v, MrI w1 wr gm gr L n sv (.slice none 0 0) v a.fin [] (a.st.take 0)) := ⟨_, hmo⟩
      clear hmo HI HM HT hsv
      skip
      go_wp2
      clear hcb
      go_loopw [5] (fun i wr => ∃ (k : Nat), k ≤ ks ∧ i = .int .i64 k ∧ Hid (∃ v, MrI w1 wr gm gr L n sv (.slice none 0 0) v a.fin [] (a.st.take k))) (fun i _ => ks - (intOf i).toNat)
      case atStart => exact ⟨0, by omega, rfl, HI2⟩
      case round =>
        clear HI2
        obtain ⟨k, hk, rfl, HI⟩ := hrel
        obtain ⟨v0, hmo⟩ := HI.out
        have HM := Lib.hid hmo
        have hcb := (HX.out.on hmo.below).c2
        by_cases hlt : k < ks
        · as_aux_lemma =>
          have hlt' : k < a.st.length := by rw [HS2.out]; exact hlt
          obtain ⟨ad, e, hadb, hcell, _⟩ := HD.out.st.get (List.getElem?_eq_getElem hlt')
          subst e
          have HSn := Lib.hid (take_snoc hlt')
          have HLn : Hid ((a.st.take k).length < 17592186044416) := by rw [Hid, List.length_take]; omega
          generalize a.st[k] = x at *
          clear hmo HI
          have HK : Hid (∀ W es fs, Own w1 W es fs → eNfa gm [.int .i64 L, .int .i64 n, sv, .slice none 0 0, v0] ∈ es ++ fs → W.cell? ⟨gm, 4, none⟩ = some v0 ∧ W.cell? ⟨gb, 2, none⟩ = some (.slice (some ad) ks ca) ∧ W.cell? (ad.add k) = some (.int .i64 x)) := fun W es fs hW hm => ⟨(ncell hW hm (j := 4) rfl).1, (HX.out.on hW.below).c2, (hW.below.cell (p := ad.add k) (by rw [Wd.block_add]; exact hadb)).trans hcell⟩
          have e3 : (k : Int) < (ks : Int) := by omega
          have HMb := Lib.hid (HM.out.re [2, 0, 1, 3, 4] 5 rfl (by decide))
          clear hcell
          generalize a.st.take k = ls at *
          go_wp2
          clear hcb
          refine wp_region_Z ((fun W => W.cell? ⟨gm, 4, none⟩ = some v0 ∧ W.cell? ⟨gb, 2, none⟩ = some (.slice (some ad) ks ca) ∧ W.cell? (ad.add k) = some (.int .i64 x))) 10 (by kernel_rfl) (HK.out _ _ _ (HMb.out.on (Below.refl _ _).drew) (by simp)) (fun hHeld => ?_)
          refine wpZ_take (i := 0) (v := ?_) rfl (by kernel_rfl) (by kernel_rfl) (by kernel_rfl) (by kernel_rfl) (fun _ _ _ h => h) (Or.inl ⟨by rfl, ?_⟩) hHeld ?_
          rotate_left
          · (go_light; intro w9 hSw; (try dsimp only at hSw); go_simp; try with_reducible rfl)
          try simp only [Act.put, List.setIfInBounds_toArray, List.set_cons_zero, List.set_cons_succ]
          refine wpZ_take (i := 1) (v := ?_) rfl (by kernel_rfl) (by kernel_rfl) (by kernel_rfl) (by kernel_rfl) (fun _ _ _ h => h) (Or.inl ⟨by rfl, ?_⟩) hHeld ?_
          rotate_left
          · (go_light; intro w9 hSw; (try dsimp only at hSw); go_simp; try with_reducible rfl)
          try simp only [Act.put, List.setIfInBounds_toArray, List.set_cons_zero, List.set_cons_succ]
          refine wpZ_take (i := 2) (v := ?_) rfl (by kernel_rfl) (by kernel_rfl) (by kernel_rfl) (by kernel_rfl) (fun _ _ _ h => h) (Or.inl ⟨by rfl, ?_⟩) hHeld ?_
          rotate_left
          · (go_light; intro w9 hSw; (try dsimp only at hSw); go_simp; try with_reducible rfl)
          try simp only [Act.put, List.setIfInBounds_toArray, List.set_cons_zero, List.set_cons_succ]
          refine wpZ_take (i := 3) (v := ?_) rfl (by kernel_rfl) (by kernel_rfl) (by kernel_rfl) (by kernel_rfl) (fun _ _ _ h => h) (Or.inl ⟨by rfl, ?_⟩) hHeld ?_
          rotate_left
          · (go_light; intro w9 hSw; (try dsimp only at hSw); go_simp; try with_reducible rfl)
          try simp only [Act.put, List.setIfInBounds_toArray, List.set_cons_zero, List.set_cons_succ]
          refine wpZ_take (i := 4) (v := ?_) rfl (by kernel_rfl) (by kernel_rfl) (by kernel_rfl) (by kernel_rfl) (fun _ _ _ h => h) (Or.inl ⟨by rfl, ?_⟩) hHeld ?_
          rotate_left
          · (go_light; intro w9 hSw; (try dsimp only at hSw); go_simp; try with_reducible rfl)
          try simp only [Act.put, List.setIfInBounds_toArray, List.set_cons_zero, List.set_cons_succ]
          refine wpZ_take (i := 5) (v := ?_) rfl (by kernel_rfl) (by kernel_rfl) (by kernel_rfl) (by kernel_rfl) (fun _ _ _ h => h) (Or.inl ⟨by rfl, ?_⟩) hHeld ?_
          rotate_left
          · (go_light; intro w9 hSw; (try dsimp only at hSw); go_simp; try with_reducible rfl)
          try simp only [Act.put, List.setIfInBounds_toArray, List.set_cons_zero, List.set_cons_succ]
          refine wpZ_take (i := 6) (v := ?_) rfl (by kernel_rfl) (by kernel_rfl) (by kernel_rfl) (by kernel_rfl) (fun _ _ _ h => h) (Or.inl ⟨by rfl, ?_⟩) hHeld ?_
          rotate_left
          · (go_light; intro w9 hSw; (try dsimp only at hSw); go_simp; try with_reducible rfl)
          try simp only [Act.put, List.setIfInBounds_toArray, List.set_cons_zero, List.set_cons_succ]
          refine wpZ_one (i := 7) rfl (by kernel_rfl) (fun K hK => ?_)
          go_simp
          refine hK.out _ _ (fun _ => HK.out _ _ _ (HMb.out.on (by go_grown)) (by simp)) (fun hHeld9 => ?_)
          replace hHeld := hHeld9 (by decide)
          clear hHeld9
          clear hK K
          try simp only [Act.put, List.setIfInBounds_toArray, List.set_cons_zero, List.set_cons_succ]
          refine wpZ_one (i := 8) rfl (by kernel_rfl) (fun K hK => ?_)
          refine step_own_int (y := x) (by rfl) _ _ (by rfl) (by rfl) (HMb.out.on (Below.refl _ _).drew) (by rfl) HLn.out ?_
          intro g6 cap6 w6 ho6
          refine hK.out _ _ (fun _ => HK.out _ _ _ ho6 (by simp)) (fun hHeld9 => ?_)
          replace hHeld := hHeld9 (by decide)
          clear hHeld9
          clear hK K
          try simp only [Act.put, List.setIfInBounds_toArray, List.set_cons_zero, List.set_cons_succ]
          refine wpZ_take (i := 9) (v := ?_) rfl (by kernel_rfl) (by kernel_rfl) (by kernel_rfl) (by kernel_rfl) (fun _ _ _ h => h) (Or.inl ⟨by rfl, ?_⟩) hHeld ?_
          rotate_left
          · (go_light; intro w9 hSw; (try dsimp only at hSw); go_simp; try with_reducible rfl)
          try simp only [Act.put, List.setIfInBounds_toArray, List.set_cons_zero, List.set_cons_succ]
          refine wpZ_one (i := 10) rfl (by kernel_rfl) (fun K hK => ?_)
          obtain ⟨hk3, hk4⟩ := ncell ho6 (g := gm) (l := [.int .i64 L, .int .i64 n, sv, .slice none 0 0, v0]) (j := 4) (by simp) rfl
          go_simp
          refine hK.out _ _ (fun k => absurd rfl k) (fun _ => ?_)
          clear hK K
          try simp only [Act.put, List.setIfInBounds_toArray, List.set_cons_zero, List.set_cons_succ]
          refine wpZ_done (by kernel_rfl) ?_ _
          have HN1 : Hid (∃ v, MrI w1 (w6.setCell ⟨gm, 4, none⟩ (.slice (some ⟨g6, 0, none⟩) (ls.length + 1) cap6)) gm gr L n sv (.slice none 0 0) v a.fin [] (a.st.take (k + 1))) := by
            refine ⟨(.slice (some ⟨g6, 0, none⟩) (ls.length + 1) cap6), ?_⟩
            rw [HSn.out]
            exact (nset (ho6.re [3, 0, 1, 2, 4] 5 rfl (by decide)) 4 (.slice (some ⟨g6, 0, none⟩) (ls.length + 1) cap6)).re [2, 3, 1, 0, 4] 5 rfl (by decide)
          clear ho6 HK HMb HM hk3 hk4 hHeld
          go_wp2
          go_roundw
          case rel => exact ⟨k + 1, by omega, by go_num, HN1⟩
          case measure => simp [intOf]; omega
        · obtain rfl : k = ks := by omega
          have HT : Hid (a.st.take k = a.st) := List.take_of_length_le (by rw [HS2.out]; exact Nat.le_refl _)
          rw [HT.out] at hmo
          obtain ⟨fv, hfv⟩ : ∃ x, x = v0 := ⟨_, rfl⟩
          rw [← hfv] at hmo
          have HI3 : Hid (∃ v, MrI w1 wr gm gr L n sv v fv a.fin ((a.mv.take 0).map turn) a.st) := ⟨_, hmo⟩
          clear hmo HI HM HT hfv
          skip
          go_wp2
          clear hcb
          go_loopw [6] (fun i wr => ∃ (k : Nat), k ≤ km ∧ i = .int .i64 k ∧ Hid (∃ v, MrI w1 wr gm gr L n sv v fv a.fin ((a.mv.take k).map turn) a.st)) (fun i _ => km - (intOf i).toNat)
          case atStart => exact ⟨0, by omega, rfl, HI3⟩
          case round =>
            clear HI3
            obtain ⟨k, hk, rfl, HI⟩ := hrel
            obtain ⟨v0, hmo⟩ := HI.out
            have HM := Lib.hid hmo
            have hcb := (HX.out.on hmo.below).c3
            by_cases hlt : k < km
            · as_aux_lemma =>
              have hlt' : k < a.mv.length := by rw [HS3.out]; exact hlt
              obtain ⟨ad, e, hadb, m0, m1, m2⟩ := HD.out.mv.at_ (List.getElem?_eq_getElem hlt')
              subst e
              have HSn := Lib.hid (take_map_snoc hlt')
              have HLn : Hid (((a.mv.take k).map turn).length < 1099511627776) := by rw [Hid, List.length_map, List.length_take]; omega
              obtain ⟨⟨x, y, z⟩, hq⟩ : ∃ q, q = a.mv[k] := ⟨_, rfl⟩
              rw [← hq] at m0 m1 m2 HSn
              try simp only at m0 m1 m2
              obtain ⟨P, hP⟩ : ∃ P, P = ad.add (k * 3) := ⟨_, rfl⟩
              have hPb : P.block < w1.heap.size := by rw [hP, Wd.block_add]; exact hadb
              rw [← hP] at m0 m1 m2
              have HP := Lib.hid hP
              clear hmo HI hlt' hq hP
              have HK : Hid (∀ W es fs, Own w1 W es fs → eNfa gm [.int .i64 L, .int .i64 n, sv, v0, fv] ∈ es ++ fs → W.cell? ⟨gm, 3, none⟩ = some v0 ∧ W.cell? ⟨gb, 3, none⟩ = some (.slice (some ad) km cm) ∧ W.cell? P = some (.int .i64 x) ∧ W.cell? ⟨P.block, P.off + 1, none⟩ = some (.int .i64 y) ∧ W.cell? ⟨P.block, P.off + 2, none⟩ = some (.int .i64 z)) := fun W es fs hW hm => ⟨(ncell hW hm (j := 3) rfl).1, (HX.out.on hW.below).c3, (hW.below.cell (p := P) hPb).trans m0, (hW.below.cell (p := ⟨P.block, P.off + 1, none⟩) hPb).trans m1, (hW.below.cell (p := ⟨P.block, P.off + 2, none⟩) hPb).trans m2⟩
              have e3 : (k : Int) < (km : Int) := by omega
              have HMb := Lib.hid (HM.out.re [1, 0, 2, 3, 4] 5 rfl (by decide))
              clear m0 m1 m2
              generalize (a.mv.take k).map turn = ms at *
              go_wp2
              clear hcb
              refine wp_region_Z ((fun W => W.cell? ⟨gm, 3, none⟩ = some v0 ∧ W.cell? ⟨gb, 3, none⟩ = some (.slice (some ad) km cm) ∧ W.cell? P = some (.int .i64 x) ∧ W.cell? ⟨P.block, P.off + 1, none⟩ = some (.int .i64 y) ∧ W.cell? ⟨P.block, P.off + 2, none⟩ = some (.int .i64 z))) 24 (by kernel_rfl) (HK.out _ _ _ (HMb.out.on (Below.refl _ _).drew) (by simp)) (fun hHeld => ?_)
              refine wpZ_takeD (some 53) (i := 0) (v := ?_) rfl rfl (by kernel_rfl) (by kernel_rfl) (by kernel_rfl) (by kernel_rfl) (fun _ _ _ h => h) (Or.inl ⟨by rfl, ?_⟩) hHeld ?_
              rotate_left
              · (go_light; intro w9 hSw; (try dsimp only at hSw); go_simp; try with_reducible rfl)
              try simp only [Act.put, List.setIfInBounds_toArray, List.set_cons_zero, List.set_cons_succ]
              refine wpZ_takeD (some 54) (i := 1) (v := ?_) rfl rfl (by kernel_rfl) (by kernel_rfl) (by kernel_rfl) (by kernel_rfl) (fun _ _ _ h => h) (Or.inl ⟨by rfl, ?_⟩) hHeld ?_
              rotate_left
              · (go_light; intro w9 hSw; (try dsimp only at hSw); go_simp; try with_reducible rfl)
              try simp only [Act.put, List.setIfInBounds_toArray, List.set_cons_zero, List.set_cons_succ]
              refine wpZ_takeD (some 55) (i := 2) (v := ?_) rfl rfl (by kernel_rfl) (by kernel_rfl) (by kernel_rfl) (by kernel_rfl) (fun _ _ _ h => h) (Or.inl ⟨by rfl, ?_⟩) hHeld ?_
              rotate_left
              · (go_light; intro w9 hSw; (try dsimp only at hSw); go_simp; try with_reducible rfl)
              try simp only [Act.put, List.setIfInBounds_toArray, List.set_cons_zero, List.set_cons_succ]
              refine wpZ_takeD (some 56) (i := 3) (v := ?_) rfl rfl (by kernel_rfl) (by kernel_rfl) (by kernel_rfl) (by kernel_rfl) (fun _ _ _ h => h) (Or.inl ⟨by rfl, ?_⟩) hHeld ?_
              rotate_left
              · (go_light; intro w9 hSw; (try dsimp only at hSw); go_simp; try with_reducible rfl)
              try simp only [Act.put, List.setIfInBounds_toArray, List.set_cons_zero, List.set_cons_succ]
              refine wpZ_takeD (some 57) (i := 4) (v := ?_) rfl rfl (by kernel_rfl) (by kernel_rfl) (by kernel_rfl) (by kernel_rfl) (fun _ _ _ h => h) (Or.inl ⟨by rfl, ?_⟩) hHeld ?_
              rotate_left
              · (go_light; intro w9 hSw; (try dsimp only at hSw); go_simp; try with_reducible rfl)
              try simp only [Act.put, List.setIfInBounds_toArray, List.set_cons_zero, List.set_cons_succ]
              refine wpZ_takeD (some 58) (i := 5) (v := .pointer (some P)) rfl rfl (by kernel_rfl) (by kernel_rfl) (by kernel_rfl) (by kernel_rfl) (fun _ _ _ h => h) (Or.inl ⟨by rfl, ?_⟩) hHeld ?_
              · (go_light; intro w9 hSw; (try dsimp only at hSw); rw [HP.out]; clear hSw; go_simp; try with_reducible rfl)
              try simp only [Act.put, List.setIfInBounds_toArray, List.set_cons_zero, List.set_cons_succ]
              refine wpZ_takeD (some 59) (i := 6) (v := ?_) rfl rfl (by kernel_rfl) (by kernel_rfl) (by kernel_rfl) (by kernel_rfl) (fun _ _ _ h => h) (Or.inl ⟨by rfl, ?_⟩) hHeld ?_
              rotate_left
              · (go_light; intro w9 hSw; (try dsimp only at hSw); go_simp; try with_reducible rfl)
              try simp only [Act.put, List.setIfInBounds_toArray, List.set_cons_zero, List.set_cons_succ]
              refine wpZ_takeD (some 60) (i := 7) (v := ?_) rfl rfl (by kernel_rfl) (by kernel_rfl) (by kernel_rfl) (by kernel_rfl) (fun _ _ _ h => h) (Or.inl ⟨by rfl, ?_⟩) hHeld ?_
              rotate_left
              · (go_light; intro w9 hSw; (try dsimp only at hSw); go_simp; try with_reducible rfl)
              try simp only [Act.put, List.setIfInBounds_toArray, List.set_cons_zero, List.set_cons_succ]
              refine wpZ_takeD (some 61) (i := 8) (v := ?_) rfl rfl (by kernel_rfl) (by kernel_rfl) (by kernel_rfl) (by kernel_rfl) (fun _ _ _ h => h) (Or.inl ⟨by rfl, ?_⟩) hHeld ?_
              rotate_left
              · (go_light; intro w9 hSw; (try dsimp only at hSw); go_simp; try with_reducible rfl)
              try simp only [Act.put, List.setIfInBounds_toArray, List.set_cons_zero, List.set_cons_succ]
              refine wpZ_takeD (some 62) (i := 9) (v := ?_) rfl rfl (by kernel_rfl) (by kernel_rfl) (by kernel_rfl) (by kernel_rfl) (fun _ _ _ h => h) (Or.inl ⟨by rfl, ?_⟩) hHeld ?_
              rotate_left
              · (go_light; intro w9 hSw; (try dsimp only at hSw); go_simp; try with_reducible rfl)
              try simp only [Act.put, List.setIfInBounds_toArray, List.set_cons_zero, List.set_cons_succ]
              refine wpZ_takeD (some 63) (i := 10) (v := ?_) rfl rfl (by kernel_rfl) (by kernel_rfl) (by kernel_rfl) (by kernel_rfl) (fun _ _ _ h => h) (Or.inl ⟨by rfl, ?_⟩) hHeld ?_
              rotate_left
              · (go_light; intro w9 hSw; (try dsimp only at hSw); go_simp; try with_reducible rfl)
              try simp only [Act.put, List.setIfInBounds_toArray, List.set_cons_zero, List.set_cons_succ]
              refine wpZ_takeD (some 64) (i := 11) (v := .pointer (some P)) rfl rfl (by kernel_rfl) (by kernel_rfl) (by kernel_rfl) (by kernel_rfl) (fun _ _ _ h => h) (Or.inl ⟨by rfl, ?_⟩) hHeld ?_
              · (go_light; intro w9 hSw; (try dsimp only at hSw); rw [HP.out]; clear hSw; go_simp; try with_reducible rfl)
              try simp only [Act.put, List.setIfInBounds_toArray, List.set_cons_zero, List.set_cons_succ]
              refine wpZ_takeD (some 65) (i := 12) (v := ?_) rfl rfl (by kernel_rfl) (by kernel_rfl) (by kernel_rfl) (by kernel_rfl) (fun _ _ _ h => h) (Or.inl ⟨by rfl, ?_⟩) hHeld ?_
              rotate_left
              · (go_light; intro w9 hSw; (try dsimp only at hSw); go_simp; try with_reducible rfl)
              try simp only [Act.put, List.setIfInBounds_toArray, List.set_cons_zero, List.set_cons_succ]
              refine wpZ_takeD (some 66) (i := 13) (v := ?_) rfl rfl (by kernel_rfl) (by kernel_rfl) (by kernel_rfl) (by kernel_rfl) (fun _ _ _ h => h) (Or.inl ⟨by rfl, ?_⟩) hHeld ?_
              rotate_left
              · (go_light; intro w9 hSw; (try dsimp only at hSw); go_simp; try with_reducible rfl)
              try simp only [Act.put, List.setIfInBounds_toArray, List.set_cons_zero, List.set_cons_succ]
              refine wpZ_takeD (some 67) (i := 14) (v := ?_) rfl rfl (by kernel_rfl) (by kernel_rfl) (by kernel_rfl) (by kernel_rfl) (fun _ _ _ h => h) (Or.inl ⟨by rfl, ?_⟩) hHeld ?_
              rotate_left
              · (go_light; intro w9 hSw; (try dsimp only at hSw); go_simp; try with_reducible rfl)
              try simp only [Act.put, List.setIfInBounds_toArray, List.set_cons_zero, List.set_cons_succ]
              refine wpZ_takeD (some 68) (i := 15) (v := ?_) rfl rfl (by kernel_rfl) (by kernel_rfl) (by kernel_rfl) (by kernel_rfl) (fun _ _ _ h => h) (Or.inl ⟨by rfl, ?_⟩) hHeld ?_
              rotate_left
              · (go_light; intro w9 hSw; (try dsimp only at hSw); go_simp; try with_reducible rfl)
              try simp only [Act.put, List.setIfInBounds_toArray, List.set_cons_zero, List.set_cons_succ]
              refine wpZ_takeD (some 69) (i := 16) (v := ?_) rfl rfl (by kernel_rfl) (by kernel_rfl) (by kernel_rfl) (by kernel_rfl) (fun _ _ _ h => h) (Or.inl ⟨by rfl, ?_⟩) hHeld ?_
              rotate_left
              · (go_light; intro w9 hSw; (try dsimp only at hSw); go_simp; try with_reducible rfl)
              try simp only [Act.put, List.setIfInBounds_toArray, List.set_cons_zero, List.set_cons_succ]
              refine wpZ_takeD (some 70) (i := 17) (v := .pointer (some P)) rfl rfl (by kernel_rfl) (by kernel_rfl) (by kernel_rfl) (by kernel_rfl) (fun _ _ _ h => h) (Or.inl ⟨by rfl, ?_⟩) hHeld ?_
              · (go_light; intro w9 hSw; (try dsimp only at hSw); rw [HP.out]; clear hSw; go_simp; try with_reducible rfl)
              try simp only [Act.put, List.setIfInBounds_toArray, List.set_cons_zero, List.set_cons_succ]
              refine wpZ_takeD (some 71) (i := 18) (v := ?_) rfl rfl (by kernel_rfl) (by kernel_rfl) (by kernel_rfl) (by kernel_rfl) (fun _ _ _ h => h) (Or.inl ⟨by rfl, ?_⟩) hHeld ?_
              rotate_left
              · (go_light; intro w9 hSw; (try dsimp only at hSw); go_simp; try with_reducible rfl)
              try simp only [Act.put, List.setIfInBounds_toArray, List.set_cons_zero, List.set_cons_succ]
              refine wpZ_takeD (some 72) (i := 19) (v := ?_) rfl rfl (by kernel_rfl) (by kernel_rfl) (by kernel_rfl) (by kernel_rfl) (fun _ _ _ h => h) (Or.inl ⟨by rfl, ?_⟩) hHeld ?_
              rotate_left
              · (go_light; intro w9 hSw; (try dsimp only at hSw); go_simp; try with_reducible rfl)
              try simp only [Act.put, List.setIfInBounds_toArray, List.set_cons_zero, List.set_cons_succ]
              refine wpZ_takeD (some 73) (i := 20) (v := ?_) rfl rfl (by kernel_rfl) (by kernel_rfl) (by kernel_rfl) (by kernel_rfl) (fun _ _ _ h => h) (Or.inl ⟨by rfl, ?_⟩) hHeld ?_
              rotate_left
              · (go_light; intro w9 hSw; (try dsimp only at hSw); go_simp; try with_reducible rfl)
              try simp only [Act.put, List.setIfInBounds_toArray, List.set_cons_zero, List.set_cons_succ]
              refine wpZ_one (i := 21) rfl (by kernel_rfl) (fun K hK => ?_)
              go_simp
              refine hK.out _ _ (fun _ => HK.out _ _ _ (HMb.out.on (by go_grown)) (by simp)) (fun hHeld9 => ?_)
              replace hHeld := hHeld9 (by decide)
              clear hHeld9
              clear hK K
              try simp only [Act.put, List.setIfInBounds_toArray, List.set_cons_zero, List.set_cons_succ]
              refine wpZ_one (i := 22) rfl (by kernel_rfl) (fun K hK => ?_)
              refine step_own_move (m := (z, y, x)) (by rfl) _ _ (by rfl) (by rfl) (HMb.out.on (Below.refl _ _).drew) (by rfl) HLn.out ?_
              intro g6 cap6 w6 ho6
              refine hK.out _ _ (fun _ => HK.out _ _ _ ho6 (by simp)) (fun hHeld9 => ?_)
              replace hHeld := hHeld9 (by decide)
              clear hHeld9
              clear hK K
              try simp only [Act.put, List.setIfInBounds_toArray, List.set_cons_zero, List.set_cons_succ]
              refine wpZ_takeD (some 76) (i := 23) (v := ?_) rfl rfl (by kernel_rfl) (by kernel_rfl) (by kernel_rfl) (by kernel_rfl) (fun _ _ _ h => h) (Or.inl ⟨by rfl, ?_⟩) hHeld ?_
              rotate_left
              · (go_light; intro w9 hSw; (try dsimp only at hSw); go_simp; try with_reducible rfl)
              try simp only [Act.put, List.setIfInBounds_toArray, List.set_cons_zero, List.set_cons_succ]
              refine wpZ_one (i := 24) rfl (by kernel_rfl) (fun K hK => ?_)
              obtain ⟨hk3, hk4⟩ := ncell ho6 (g := gm) (l := [.int .i64 L, .int .i64 n, sv, v0, fv]) (j := 3) (by simp) rfl
              go_simp
              refine hK.out _ _ (fun k => absurd rfl k) (fun _ => ?_)
              clear hK K
              try simp only [Act.put, List.setIfInBounds_toArray, List.set_cons_zero, List.set_cons_succ]
              refine wpZ_done (by kernel_rfl) ?_ _
              have HN1 : Hid (∃ v, MrI w1 (w6.setCell ⟨gm, 3, none⟩ (.slice (some ⟨g6, 0, none⟩) (ms.length + 1) cap6)) gm gr L n sv v fv a.fin ((a.mv.take (k + 1)).map turn) a.st) := by
                refine ⟨(.slice (some ⟨g6, 0, none⟩) (ms.length + 1) cap6), ?_⟩
                rw [HSn.out]
                exact (nset (ho6.re [3, 0, 1, 2, 4] 5 rfl (by decide)) 3 (.slice (some ⟨g6, 0, none⟩) (ms.length + 1) cap6)).re [2, 1, 3, 0, 4] 5 rfl (by decide)
              clear ho6 HK HMb HM hk3 hk4 hHeld
              go_wp2
              go_roundw
              case rel => exact ⟨k + 1, by omega, by go_num, HN1⟩
              case measure => simp [intOf]; omega
            · obtain rfl : k = km := by omega
              have HT : Hid (a.mv.take k = a.mv) := List.take_of_length_le (by rw [HS3.out]; exact Nat.le_refl _)
              rw [HT.out] at hmo
              obtain ⟨A1, k1, n1, A2, k2, n2, A3, k3, n3, e1, e2, e3⟩ := mrI_form hmo
              subst e1 e2 e3
              obtain ⟨hg0, _⟩ := mrI_gm hmo (j := 0) rfl
              obtain ⟨hr0, hf0⟩ := mrI_gr hmo (j := 0) rfl
              obtain ⟨hg1, _⟩ := mrI_gm hmo (j := 1) rfl
              obtain ⟨hr1, hf1⟩ := mrI_gr hmo (j := 1) rfl
              obtain ⟨hg2, _⟩ := mrI_gm hmo (j := 2) rfl
              obtain ⟨hr2, hf2⟩ := mrI_gr hmo (j := 2) rfl
              obtain ⟨hg3, _⟩ := mrI_gm hmo (j := 3) rfl
              obtain ⟨hr3, hf3⟩ := mrI_gr hmo (j := 3) rfl
              obtain ⟨hg4, _⟩ := mrI_gm hmo (j := 4) rfl
              obtain ⟨hr4, hf4⟩ := mrI_gr hmo (j := 4) rfl
              have HEnd := Lib.hid (mrI_end (a := mir a) (by rw [show (mir a).L = L from HE2.out.1, show (mir a).n = n from HE2.out.2]; exact hmo) (mir_good HG.out) rfl)
              rw [show (mir a).L = L from HE2.out.1, show (mir a).n = n from HE2.out.2] at HEnd
              clear hmo HI HM HT
              go_wp2
              obtain ⟨hat, hbl, k0, k1, k2, k3, k4⟩ := HEnd.out
              exact bodyPost_ret (results_nfa1 rfl _ rfl k0 k1 k2 k3 k4) rfl ⟨⟨_, rfl, hat.base HB.out⟩, HB.out.trans (hbl.mono HB.out.size)⟩
end Go.Proofs.YtnlkkfcjonchgaaDoor.Nf
