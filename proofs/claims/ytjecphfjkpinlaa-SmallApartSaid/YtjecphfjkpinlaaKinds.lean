/- The walk of package small's kindsOf. -/
import Derived.Test.YtjecphfjkpinlaaNumK
namespace Go.Proofs.Ytjecphfjkpinlaa.Mp
open Go.RowKit Go.IntWalk Go.Proofs.Ytjecphfjkpinlaa.Wd Go.Proofs.Ytjecphfjkpinlaa.Wo Go.Proofs.Ytjecphfjkpinlaa.Df Go.Proofs.Ytjecphfjkpinlaa.Rc Go.Proofs.Ytjecphfjkpinlaa.Sm

/-- The kind of a state, the first j of its numbers filled in. -/
def kM (d : Aut) (cl : List Nat) (q j : Nat) : List Int := ((kindL d cl q).take j).map (fun (x : Nat) => (x : Int)) ++ List.replicate (7 - j) 0
theorem kindL_length {d : Aut} {cl : List Nat} {q : Nat} : (kindL d cl q).length = d.L.toNat + 1 := by simp [kindL, S1_length]
theorem kM_length {d : Aut} (h6 : d.L ≤ 6) {cl : List Nat} {q j : Nat} (hj : j ≤ d.L.toNat + 1) : (kM d cl q j).length = 7 := by
  unfold kM
  rw [List.length_append, List.length_map, List.length_take, kindL_length, List.length_replicate]; omega
theorem kM_set {d : Aut} {cl : List Nat} {q j x : Nat} (hx : (kindL d cl q)[j]? = some x) (hj : j < 7) : (kM d cl q j).set j (x : Int) = kM d cl q (j + 1) := by
  obtain ⟨h1, h2⟩ := List.getElem?_eq_some_iff.1 hx
  unfold kM
  have hl : (((kindL d cl q).take j).map (fun (x : Nat) => (x : Int))).length = j := by rw [List.length_map, List.length_take]; omega
  rw [List.set_append_right _ _ (by omega), hl, Nat.sub_self, ← List.take_append_getElem h1, h2]
  obtain ⟨p, hp⟩ : ∃ p, 7 - j = p + 1 := ⟨6 - j, by omega⟩
  rw [hp, show 7 - (j + 1) = p by omega, List.replicate_succ]
  simp
/-- All of them, row s up to its number j. -/
def kR (d : Aut) (cl : List Nat) (s j : Nat) : List (List Int) := (List.range d.next.length).map fun q => kM d cl q (if q < s then d.L.toNat + 1 else if q = s then j else 0)
theorem kR_length (d : Aut) (cl : List Nat) (s j : Nat) : (kR d cl s j).length = d.next.length := by simp [kR]
theorem kR_get {d : Aut} {cl : List Nat} {s j q : Nat} (hq : q < d.next.length) : (kR d cl s j)[q]? = some (kM d cl q (if q < s then d.L.toNat + 1 else if q = s then j else 0)) := by
  unfold kR; rw [List.getElem?_map, List.getElem?_range hq]; rfl
theorem kR_next (d : Aut) (cl : List Nat) (s : Nat) : kR d cl s (d.L.toNat + 1) = kR d cl (s + 1) 0 := by
  unfold kR
  refine List.map_congr_left fun q _ => ?_
  congr 1
  by_cases h : q < s
  · rw [if_pos h, if_pos (by omega)]
  · rw [if_neg h]
    by_cases e : q = s
    · rw [if_pos e, if_pos (by omega)]
    · rw [if_neg e, if_neg (by omega)]
      split <;> rfl
theorem kR_zero (d : Aut) (cl : List Nat) : kR d cl 0 0 = List.replicate d.next.length (List.replicate 7 0) := by
  unfold kR
  refine List.ext_getElem? fun q => ?_
  rw [List.getElem?_map, List.getElem?_replicate]
  by_cases h : q < d.next.length
  · rw [List.getElem?_range h, if_pos h]
    simp only [Option.map_some, Option.some.injEq]
    rw [if_neg (by omega)]
    have : (if q = 0 then 0 else 0) = 0 := by split <;> rfl
    rw [this]; simp [kM]
  · rw [List.getElem?_eq_none (by simp; omega), if_neg h]; rfl
theorem kR_set {d : Aut} {cl : List Nat} {s j x : Nat} (hs : s < d.next.length) (hx : (kindL d cl s)[j]? = some x) (hj : j < 7) : (kR d cl s j).set s ((kM d cl s j).set j (x : Int)) = kR d cl s (j + 1) := by
  rw [kM_set hx hj]
  refine List.ext_getElem? fun q => ?_
  rw [List.getElem?_set, kR_length]
  by_cases e : s = q
  · subst e
    rw [if_pos rfl, if_pos hs, kR_get hs]
    simp
  · rw [if_neg e]
    by_cases hq : q < d.next.length
    · rw [kR_get hq, kR_get hq]
      have : ¬ q = s := fun h => e h.symm
      rw [if_neg this, if_neg this]
    · rw [List.getElem?_eq_none (by rw [kR_length]; omega), List.getElem?_eq_none (by rw [kR_length]; omega)]
theorem kR_seven {d : Aut} (h6 : d.L ≤ 6) {cl : List Nat} {s j : Nat} (hj : j ≤ d.L.toNat + 1) : ∀ l ∈ kR d cl s j, l.length = 7 := fun l hl => by
  unfold kR at hl
  obtain ⟨q, _, rfl⟩ := List.mem_map.1 hl
  refine kM_length h6 ?_
  split
  · omega
  · split <;> omega
/-- At the end they differ as the lists of numbers do. -/
theorem kR_end {d : Aut} (cl : List Nat) : kR d cl d.next.length 0 = (List.range d.next.length).map fun q => kM d cl q (d.L.toNat + 1) := by
  unfold kR
  refine List.map_congr_left fun q hq => ?_
  rw [if_pos (List.mem_range.1 hq)]
theorem kM_inj {d : Aut} {cl : List Nat} {p q : Nat} : kM d cl p (d.L.toNat + 1) = kM d cl q (d.L.toNat + 1) ↔ kindL d cl p = kindL d cl q := by
  unfold kM
  rw [List.take_of_length_le (by rw [kindL_length]; exact Nat.le_refl _), List.take_of_length_le (by rw [kindL_length]; exact Nat.le_refl _)]
  constructor
  · intro h
    have h1 := (List.append_inj h (by simp [kindL_length])).1
    exact (List.map_inj_right (fun x y e => by omega)).1 h1
  · intro h; rw [h]
theorem cls_kinds {d : Aut} (cl : List Nat) : cls (kR d cl d.next.length 0) = cls ((List.range d.next.length).map (kindL d cl)) := by
  refine cls_congr (by rw [kR_length]; simp) fun i j hi hj => ?_
  rw [kR_length] at hi hj
  rw [kR_end, List.getElem?_map, List.getElem?_map, List.getElem?_map, List.getElem?_map, List.getElem?_range hi, List.getElem?_range hj]
  simp only [Option.map_some, Option.some.injEq]
  exact kM_inj
theorem kM_wf {d : Aut} {cl : List Nat} (hc : ∀ x, atC cl x ≤ 40) {q j : Nat} : ∀ x ∈ kM d cl q j, wfI x := fun x hx => by
  unfold kM at hx
  rcases List.mem_append.1 hx with hx | hx
  · obtain ⟨y, hy, rfl⟩ := List.mem_map.1 hx
    have hy := List.mem_of_mem_take hy
    unfold kindL at hy
    rcases List.mem_cons.1 hy with rfl | hy
    · have := hc q; unfold wfI; omega
    · obtain ⟨t, _, rfl⟩ := List.mem_map.1 hy
      have := hc t; unfold wfI; omega
  · have := (List.mem_replicate.1 hx).2
    subst this; unfold wfI; omega

/-! ### rows of kinds that a call makes -/
def eKin (g n : Nat) (ks : List (List Int)) : Ent := ⟨74, 7, rV g n, n, kcells ks⟩
theorem kcells_set : ∀ (ks : List (List Int)) (k j : Nat) (l : List Int) (x : Int), (∀ l ∈ ks, l.length = 7) → ks[k]? = some l → j < 7 → (kcells ks).set (k * 7 + j) (.int .i64 x) = kcells (ks.set k (l.set j x))
  | [], k, j, l, x, _, h, _ => by simp at h
  | m :: ks, 0, j, l, x, h7, h, hj => by
    simp only [List.getElem?_cons_zero, Option.some.injEq] at h
    subst h
    have hm := h7 m List.mem_cons_self
    have e : kcells (m :: ks) = m.map i64 ++ kcells ks := rfl
    have e2 : kcells ((m :: ks).set 0 (m.set j x)) = (m.set j x).map i64 ++ kcells ks := rfl
    rw [e, e2, Nat.zero_mul, Nat.zero_add, List.set_append_left _ _ (by rw [List.length_map]; omega), List.map_set]; rfl
  | m :: ks, k + 1, j, l, x, h7, h, hj => by
    rw [List.getElem?_cons_succ] at h
    have hm := h7 m List.mem_cons_self
    have e : kcells (m :: ks) = m.map i64 ++ kcells ks := rfl
    have e2 : kcells ((m :: ks).set (k + 1) (l.set j x)) = m.map i64 ++ kcells (ks.set k (l.set j x)) := rfl
    rw [e, e2, List.set_append_right _ _ (by rw [List.length_map]; omega), List.length_map, hm, show (k + 1) * 7 + j - 7 = k * 7 + j by omega, kcells_set ks k j l x (fun y hy => h7 y (List.mem_cons_of_mem _ hy)) h hj]
theorem infoKin : (Try.prog.info? 74).map (fun i => (i.zero, i.size, i.bytes)) = some (some (.agg #[.int .i64 0, .int .i64 0, .int .i64 0, .int .i64 0, .int .i64 0, .int .i64 0, .int .i64 0]), 7, 56) := by kernel_rfl
theorem kcells_zero (n : Nat) : kcells (List.replicate n (List.replicate 7 0)) = List.replicate (n * 7) (.int .i64 0) := by
  induction n with
  | zero => rfl
  | succ n ih =>
    have e : kcells (List.replicate (n + 1) (List.replicate 7 0)) = (List.replicate 7 (0 : Int)).map i64 ++ kcells (List.replicate n (List.replicate 7 0)) := rfl
    rw [e, ih, List.map_replicate, show i64 0 = Value.int .i64 0 from rfl, List.replicate_append_replicate]
    congr 1; omega
theorem made_kin (n : Nat) : (madeCells (Value.agg #[.int .i64 0, .int .i64 0, .int .i64 0, .int .i64 0, .int .i64 0, .int .i64 0, .int .i64 0]).cells (n * 7)).toList = kcells (List.replicate n (List.replicate 7 0)) := by
  rw [kcells_zero]
  refine List.ext_getElem? fun i => ?_
  unfold madeCells
  simp only [Array.toList_map, Array.toList_range, List.getElem?_map, List.getElem?_replicate]
  by_cases h : i < n * 7
  · rw [List.getElem?_range h, if_pos h]
    simp only [Option.map_some, Option.some.injEq]
    have hc : (Value.agg #[.int .i64 0, .int .i64 0, .int .i64 0, .int .i64 0, .int .i64 0, .int .i64 0, .int .i64 0]).cells = #[.int .i64 0, .int .i64 0, .int .i64 0, .int .i64 0, .int .i64 0, .int .i64 0, .int .i64 0] := rfl
    rw [hc]
    show #[Value.int .i64 0, .int .i64 0, .int .i64 0, .int .i64 0, .int .i64 0, .int .i64 0, .int .i64 0][i % 7]! = _
    have h7 : i % 7 < 7 := Nat.mod_lt _ (by omega)
    generalize i % 7 = j at *
    rcases j with _ | _ | _ | _ | _ | _ | _ | j
    all_goals first | rfl | omega
  · rw [List.getElem?_eq_none (by simp; omega), if_neg h]; rfl
/-- 'make([]kind, n)'. -/
theorem mk_kinds {w : World} {ops : Array Oper} {rest : List Oper} {o : Oper} {a : Act} {Q : Exit → Act → World → Prop} (hgd : o.guard = none) (l c : Operand)
    (ho : o.op = Op.makeSlice 75 l c) (n : Nat) (hl : a.eval l = .int .i64 (n : Int)) (hc : a.eval c = .int .i64 (n : Int)) (hn : n ≤ 40)
    (h : ∀ w', Own w w' [eKin w.heap.size n (List.replicate n (List.replicate 7 0))] [] → wpList Try.prog ops Q rest (a.put o.dst (rV w.heap.size n)) w') : wpList Try.prog ops Q (o :: rest) a w := by
  obtain ⟨i0, hi, hz0, hz1, hz2⟩ := info_parts infoKin
  refine wpList_make_full w hgd l c 75 ho w.heap.size 74 i0 _ 7 Try.underlying75 hi hz0 hz1 .i64 .i64 _ _ n hl hc rfl rfl (by rw [hz2]; omega) (by unfold maxLen; omega) (Nat.le_refl _) ?_
  intro w' hown hg
  rw [made_kin] at hown
  refine h w' ⟨(Below.refl _ _).grown hg (Nat.le_refl _) (fun k hk => by cases hk), fun e he => ?_, fun e he => by simp at he, by simp, fun e _ f hf => by simp at hf⟩
  simp at he; subst he
  exact hown
theorem own_kin_at {w0 w : World} {es fs : List Ent} (h : Own w0 w es fs) {g n : Nat} {ks : List (List Int)} (he : eKin g n ks ∈ es ++ fs) {j : Nat} (hj : j < n * 7) : (∃ v, w.cell? ⟨g, j, none⟩ = some v) ∧ w.frozen? ⟨g, j, none⟩ = false := by
  have hl := h.len he
  simp only [eKin] at hl
  obtain ⟨h1, h2⟩ := h.cell (t := 74) (sz := 7) (n := n) (cap := n) (g := g) (xs := kcells ks) he (j := j) (List.getElem?_eq_getElem (by omega))
  exact ⟨⟨_, h1⟩, h2⟩
theorem own_kin_set {w0 w : World} {es fs : List Ent} {g n : Nat} {ks : List (List Int)} (h : Own w0 w (eKin g n ks :: es) fs) {k j : Nat} {l : List Int} (h7 : ∀ l ∈ ks, l.length = 7) (hk : ks[k]? = some l) (hj : j < 7) (x : Int) :
    Own w0 (w.setCell ⟨g, k * 7 + j, none⟩ (.int .i64 x)) (eKin g n (ks.set k (l.set j x)) :: es) fs := by
  have h2 := Own.set (t := 74) (sz := 7) (n := n) (cap := n) (xs := kcells ks) h (k * 7 + j) (.int .i64 x)
  rw [kcells_set ks k j l x h7 hk hj] at h2
  exact h2

/-- Midway: state s, its first j numbers. -/
def KInv (w1 wr : World) (g : Nat) (d : Aut) (cl : List Nat) (s j : Nat) : Prop := Own w1 wr [eKin g d.next.length (kR d cl s j)] []
set_option maxRecDepth 100000 in
set_option maxHeartbeats 4000000 in
theorem kinds_any (v : Value) (d : Aut) (cl : List Nat) (w : World) (h : DfaAt w w.heap.size v d) (hg : Df.Good d) (hcl : cl.length = d.next.length) :
    Calls Try.prog 46 #[v, .agg (clsV cl).toArray] w fun e w' => Hid (∃ gk, e = .returned (rV gk d.next.length) ∧ Own w w' [eKin gk d.next.length (kR d cl d.next.length 0)] []) := by
  obtain ⟨L, s0, A, c, F, cf, rfl, h⟩ := h
  obtain ⟨w1, hw1, hB1, hX, hd1⟩ := box_dfa w h
  have hs1 : w1.heap.size = w.heap.size + 1 := by rw [hw1]; simp
  have h40 := hg.n40
  have hlen : cl.length ≤ 40 := by omega
  obtain ⟨w2, hw2⟩ : ∃ w2, w2 = w1.alloc (.cells (clsV cl).toArray 52) := ⟨_, rfl⟩
  have ho2 : Own w1 w2 [eCls w1.heap.size cl] [] := by
    rw [hw2]
    have h9 := (own_start w1).lit 52 40 1 (clsV cl).toArray (by simp [clsV_length hlen]) (by simp [maxLen])
    exact h9
  have HB := Lib.hid hB1
  have HO2 := Lib.hid ho2
  have HX := Lib.hid (hX.on ho2.below)
  have HD := Lib.hid (hd1.on ho2.below)
  have HG := Lib.hid hg
  have HW1 : Hid (w2 = (w.alloc (.cells #[.int .i64 L, .int .i64 s0, .slice A d.next.length c, .slice F d.fin.length cf] 25)).alloc (.cells (clsV cl).toArray 52)) := by rw [Hid, hw2, hw1]
  have heL := h.eL
  obtain ⟨n, hn⟩ := Int.eq_ofNat_of_zero_le (show 0 ≤ L by have := hg.l1; omega)
  subst hn
  have hn6 : n ≤ 6 := by have := hg.l6; omega
  have HL : Hid (d.L = (n : Int)) := heL
  have HLn : Hid (d.L.toNat = n) := by unfold Hid; omega
  have HCl := Lib.hid hcl
  have hc2 := HX.out.c2
  rw [hs1] at ho2 HO2
  clear h hd1 hw1 hX hB1 hg heL hw2 ho2 hcl hlen hs1
  generalize hm : d.fin.length = m at *
  clear hm
  generalize hN : d.next.length = N at *
  have HN := Lib.hid hN
  clear hN
  obtain ⟨cv, hcv⟩ : ∃ cv, cv = (clsV cl).toArray := ⟨_, rfl⟩
  rw [← hcv] at HW1
  rw [← hcv]
  clear hcv
  go_enter Try.func46, Try.ntmps46
  go_wp2_with (at_make; rw [← HW1.out]; refine mk_kinds rfl _ _ rfl N rfl rfl (by omega) ?_)
  clear HW1
  intro w3 ho3
  have HS0 : Hid (KInv w2 w3 w2.heap.size d cl 0 0) := by unfold KInv; rw [kR_zero, HN.out]; exact ho3
  have hc2 := (HX.out.on ho3.below).c2
  clear ho3
  obtain ⟨gk, hgk⟩ : ∃ gk, gk = w2.heap.size := ⟨_, rfl⟩
  rw [← hgk] at HS0
  rw [← hgk]
  have HGk := Lib.hid hgk
  clear hgk
  go_wp2
  clear hc2
  go_loopw [17] (fun i wr => ∃ (k : Nat), k ≤ N ∧ i = .int .i64 k ∧ Hid (KInv w2 wr gk d cl k 0)) (fun i _ => N - (intOf i).toNat)
  case atStart => exact ⟨0, by omega, rfl, HS0⟩
  case round =>
    clear HS0
    obtain ⟨k, hk, rfl, HS⟩ := hrel
    have hbw := HS.out.below
    by_cases hlt : k < N
    · as_aux_lemma =>
      have hx1 : k < d.next.length := by have := HN.out; omega
      obtain ⟨ad, A', c', e0, hadb, hcell0, hrc, hcc, hri⟩ := HD.out.rows k _ (List.getElem?_eq_getElem hx1)
      subst e0
      have hcell1 := (hbw.cell (p := ad.add k) (by rw [Wd.block_add]; exact hadb)).trans hcell0
      clear hcell0 hadb
      have hrl := HG.out.row _ (List.getElem_mem hx1)
      have hrn : (d.next[k]).length = n := by have := HL.out; omega
      have HRow : Hid (d.next[k]? = some d.next[k]) := List.getElem?_eq_getElem hx1
      have HRI := Lib.hid hri
      have hkc := (hbw.cell (p := ⟨w.heap.size + 1, k, none⟩) (HO2.out.lt (ad := ⟨w.heap.size + 1, 0, none⟩) (t := 52) (sz := 40) (n := 1) (cap := 1) (xs := clsV cl) (by simp [eCls])).2).trans (own_cls_at HO2.out (g := w.heap.size + 1) (l := cl) (by simp) (by rw [HCl.out]; exact hlt))
      obtain ⟨⟨v0, ht1⟩, ht2⟩ := own_kin_at HS.out (g := gk) (n := d.next.length) (ks := kR d cl k 0) (by simp) (j := k * 7 + 0) (by rw [HN.out]; omega)
      have ht1 : wr.cell? ⟨gk, k * 7, none⟩ = some v0 := ht1
      have ht2 : wr.frozen? ⟨gk, k * 7, none⟩ = false := ht2
      have e2 : (k : Int) < 40 := by omega
      have hs0 := own_kin_set HS.out (kR_seven HG.out.l6 (by omega)) (kR_get hx1) (j := 0) (by omega) ((atC cl k : Nat) : Int)
      have HS1 : Hid (KInv w2 (wr.setCell ⟨gk, k * 7, none⟩ (.int .i64 ((atC cl k : Nat) : Int))) gk d cl k 1) := by
        unfold KInv
        rw [if_neg (by omega), if_pos rfl, kR_set hx1 (x := atC cl k) (by rfl) (by omega)] at hs0
        exact hs0
      have HX1 := Lib.hid hx1
      have e1 : (k : Int) < (N : Int) := by omega
      clear hrl hri hs0
      generalize d.next[k] = r0 at *
      clear hx1
      generalize atC cl k = v1 at *
      go_wp2_with fail
      go_region
      clear ht1 ht2 hkc hcell1 e2 hbw HS
      have HS2 : Hid (KInv w2 (wr.setCell ⟨gk, k * 7, none⟩ (.int .i64 (v1 : Int))).drew gk d cl k 1) := HS1.out.on (Below.refl _ _).drew
      go_wp2_with fail
      generalize (wr.setCell ⟨gk, k * 7, none⟩ (.int .i64 (v1 : Int))).drew = wb at *
      go_loopw [31] (fun i wi => ∃ (q : Nat), q ≤ n ∧ i = .int .i64 q ∧ Hid (KInv w2 wi gk d cl k (q + 1))) (fun i _ => n - (intOf i).toNat)
      case atStart => exact ⟨0, by omega, rfl, HS2⟩
      case round =>
        clear HS2 HS1
        obtain ⟨q, hq, rfl, HR⟩ := hrel
        have hbi := HR.out.below
        by_cases hqn : q < n
        · as_aux_lemma =>
          obtain ⟨r1, hr1, _, hr3, hr4, hr5⟩ := HG.out.at_ HX1.out (a := q) (by rw [HL.out]; omega)
          obtain rfl := Option.some.inj (HRow.out.symm.trans hr1)
          obtain ⟨ar, f0, k1, k2, _⟩ := (HRI.out.on hbi).get hr4
          subst f0
          rw [HN.out] at hr5
          have hkt : (kindL d cl k)[q + 1]? = some (atC cl (Df.step d k q)) := by
            unfold kindL
            rw [List.getElem?_cons_succ, List.getElem?_map, S1_get d k (by rw [HL.out]; omega)]; rfl
          have hkc := (hbi.cell (p := ⟨w.heap.size + 1, Df.step d k q, none⟩) (HO2.out.lt (ad := ⟨w.heap.size + 1, 0, none⟩) (t := 52) (sz := 40) (n := 1) (cap := 1) (xs := clsV cl) (by simp [eCls])).2).trans (own_cls_at HO2.out (g := w.heap.size + 1) (l := cl) (by simp) (by rw [HCl.out]; exact hr5))
          obtain ⟨⟨v0, ht1⟩, ht2⟩ := own_kin_at HR.out (g := gk) (n := d.next.length) (ks := kR d cl k (q + 1)) (by simp) (j := k * 7 + (q + 1)) (by rw [HN.out]; omega)
          have hs0 := own_kin_set HR.out (kR_seven HG.out.l6 (by rw [HLn.out]; omega)) (kR_get HX1.out) (j := q + 1) (by omega) ((atC cl (Df.step d k q) : Nat) : Int)
          have HS1 : Hid (KInv w2 (wr.setCell ⟨gk, k * 7 + (q + 1), none⟩ (.int .i64 ((atC cl (Df.step d k q) : Nat) : Int))) gk d cl k (q + 1 + 1)) := by
            unfold KInv
            rw [if_neg (by omega), if_pos rfl, kR_set HX1.out hkt (by omega)] at hs0
            exact hs0
          have e3 : (Df.step d k q : Int) < 40 := by omega
          have e4 : (k : Int) < (N : Int) := by omega
          have e5 : (q : Int) < (n : Int) := by omega
          have hw1 : IntKind.i64.wrap (1 + (q : Int)) = ((q + 1 : Nat) : Int) := by rw [IntWalk.i64_in _ ⟨by omega, by omega⟩]; omega
          have e6 : ((q + 1 : Nat) : Int) < 7 := by omega
          clear hr1 hr3 hr4 hr5 hs0 hkt HR hbi
          generalize atC cl (Df.step d k q) = v2 at *
          generalize Df.step d k q = t at *
          go_wp2_with fail
          go_region
          have HS2 := Lib.hid (HS1.out.on (Below.refl _ _).drew)
          clear HS1 ht1 ht2 hkc k1 k2
          go_wp2
          go_roundw
          case rel => exact ⟨q + 1, by omega, by go_num, HS2⟩
          case measure => simp [intOf]; omega
        · as_aux_lemma =>
          obtain rfl : q = n := by omega
          have HEnd : Hid (KInv w2 wr gk d cl (k + 1) 0) := by
            have h9 := HR.out
            unfold KInv at h9 ⊢
            rw [← HLn.out, kR_next] at h9
            exact h9
          clear HR hbi
          go_wp2
          go_roundw
          case rel => exact ⟨k + 1, by omega, by go_num, HEnd⟩
          case measure => simp [intOf]; omega
    · as_aux_lemma =>
      obtain rfl : k = N := by omega
      have HE : Hid (Own w wr [eKin gk k (kR d cl k 0)] []) := by
        have h9 := HS.out.base (HB.out.trans (HO2.out.below.mono HB.out.size))
        unfold Hid
        rw [HN.out] at h9
        exact h9
      clear HS hbw
      go_wp2
      go_ret
      exact ⟨gk, rfl, HE.out⟩
end Go.Proofs.Ytjecphfjkpinlaa.Mp
