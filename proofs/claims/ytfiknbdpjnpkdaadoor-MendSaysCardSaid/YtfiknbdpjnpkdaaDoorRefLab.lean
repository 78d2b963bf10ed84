/- The document's labels: a cost and a word; rows of them. -/
import Derived.Test.YtfiknbdpjnpkdaaDoorMendM
import Derived.Test.YtfiknbdpjnpkdaaDoorDfaA
import Derived.Test.YtfiknbdpjnpkdaaDoorRefWord
import Derived.Test.YtfiknbdpjnpkdaaDoorFirst
namespace Go.Proofs.YtfiknbdpjnpkdaaDoor.Me
open Go.RowKit Go.IntWalk Go.Proofs.YtfiknbdpjnpkdaaDoor.Wd Go.Proofs.YtfiknbdpjnpkdaaDoor.Wo Go.Proofs.YtfiknbdpjnpkdaaDoor.Df Go.Proofs.YtfiknbdpjnpkdaaDoor.Rc Go.Proofs.YtfiknbdpjnpkdaaDoor.Ne

def costO : Option Lb → Int
  | none => -1
  | some x => (x.1 : Int)
/-- A label and its word's value. -/
abbrev Lv := Option Lb × Value
def lcells (l : List Lv) : List Value := l.flatMap fun p => [.int .i64 (costO p.1), p.2]
def eLab (v : Value) (l : List Lv) : Ent := ⟨51, 2, v, l.length, lcells l⟩
theorem lcells_get : ∀ (l : List Lv) (k : Nat) (p : Lv), l[k]? = some p → (lcells l)[k * 2]? = some (.int .i64 (costO p.1)) ∧ (lcells l)[k * 2 + 1]? = some p.2
  | [], k, p, h => by simp at h
  | q :: l, 0, p, h => by
    simp only [List.getElem?_cons_zero, Option.some.injEq] at h
    subst h
    exact ⟨rfl, rfl⟩
  | q :: l, k + 1, p, h => by
    rw [List.getElem?_cons_succ] at h
    have := lcells_get l k p h
    have e : lcells (q :: l) = .int .i64 (costO q.1) :: q.2 :: lcells l := rfl
    rw [e, show (k + 1) * 2 = k * 2 + 1 + 1 by omega]
    simpa using this
theorem lcells_set : ∀ (l : List Lv) (k : Nat) (p : Lv), ((lcells l).set (k * 2) (.int .i64 (costO p.1))).set (k * 2 + 1) p.2 = lcells (l.set k p)
  | [], k, p => by simp [lcells]
  | q :: l, 0, p => rfl
  | q :: l, k + 1, p => by
    have e : lcells (q :: l) = .int .i64 (costO q.1) :: q.2 :: lcells l := rfl
    rw [e, show (k + 1) * 2 = k * 2 + 1 + 1 by omega, List.set_cons_succ, List.set_cons_succ, List.set_cons_succ, List.set_cons_succ, lcells_set l k p]
    rfl
theorem lcells_cost : ∀ (l : List Lv) (k : Nat) (o : Option Lb) (p : Lv), l[k]? = some p → (lcells l).set (k * 2) (.int .i64 (costO o)) = lcells (l.set k (o, p.2))
  | [], k, o, p, h => by simp at h
  | q :: l, 0, o, p, h => by
    simp only [List.getElem?_cons_zero, Option.some.injEq] at h
    subst h; rfl
  | q :: l, k + 1, o, p, h => by
    rw [List.getElem?_cons_succ] at h
    have e : lcells (q :: l) = .int .i64 (costO q.1) :: q.2 :: lcells l := rfl
    rw [e, show (k + 1) * 2 = k * 2 + 1 + 1 by omega, List.set_cons_succ, List.set_cons_succ, lcells_cost l k o p h]
    rfl
section
variable {w0 w : World} {es fs : List Ent} {g n cap : Nat} {l : List Lv}
theorem own_lab_cell (h : Own w0 w es fs) (he : eLab (.slice (some ⟨g, 0, none⟩) n cap) l ∈ es ++ fs) (hl : l.length = n) {k : Nat} {p : Lv} (hk : l[k]? = some p) :
    (w.cell? ⟨g, k * 2, none⟩ = some (.int .i64 (costO p.1)) ∧ w.frozen? ⟨g, k * 2, none⟩ = false) ∧ w.cell? ⟨g, k * 2 + 1, none⟩ = some p.2 ∧ w.frozen? ⟨g, k * 2 + 1, none⟩ = false := by
  subst hl
  obtain ⟨h1, h2⟩ := lcells_get l k p hk
  exact ⟨h.cell (t := 51) (sz := 2) (n := l.length) (cap := cap) (xs := lcells l) he h1, h.cell (t := 51) (sz := 2) (n := l.length) (cap := cap) (xs := lcells l) he h2⟩
theorem own_lab_set (h : Own w0 w (eLab (.slice (some ⟨g, 0, none⟩) n cap) l :: es) fs) (hl : l.length = n) (k : Nat) (p : Lv) :
    Own w0 ((w.setCell ⟨g, k * 2, none⟩ (.int .i64 (costO p.1))).setCell ⟨g, k * 2 + 1, none⟩ p.2) (eLab (.slice (some ⟨g, 0, none⟩) n cap) (l.set k p) :: es) fs := by
  subst hl
  have h1 := Own.set (t := 51) (sz := 2) (n := l.length) (cap := cap) (xs := lcells l) h (k * 2) (.int .i64 (costO p.1))
  have h2 := h1.set (k * 2 + 1) p.2
  rw [lcells_set] at h2
  unfold eLab
  rw [List.length_set]
  exact h2
theorem own_lab_cost (h : Own w0 w (eLab (.slice (some ⟨g, 0, none⟩) n cap) l :: es) fs) (hl : l.length = n) {k : Nat} {p : Lv} (hk : l[k]? = some p) (o : Option Lb) :
    Own w0 (w.setCell ⟨g, k * 2, none⟩ (.int .i64 (costO o))) (eLab (.slice (some ⟨g, 0, none⟩) n cap) (l.set k (o, p.2)) :: es) fs := by
  subst hl
  have h1 := Own.set (t := 51) (sz := 2) (n := l.length) (cap := cap) (xs := lcells l) h (k * 2) (.int .i64 (costO o))
  rw [lcells_cost l k o p hk] at h1
  unfold eLab
  rw [List.length_set]
  exact h1
end
theorem infoLab : (Tryd.prog.info? 51).map (fun i => (i.zero, i.size, i.bytes)) = some (some (.agg #[.int .i64 0, .slice none 0 0]), 2, 32) := by kernel_rfl
theorem made_two (a b : Value) (n : Nat) : (madeCells #[a, b] (n * 2)).toList = (List.replicate n ()).flatMap fun _ => [a, b] := by
  apply List.ext_getElem?
  intro j
  have hr : ∀ (m k : Nat), ((List.replicate m ()).flatMap fun _ => [a, b])[k]? = if k < m * 2 then some (if k % 2 = 0 then a else b) else none := by
    intro m
    induction m with
    | zero => intro k; simp
    | succ m ih =>
      intro k
      rw [List.replicate_succ, List.flatMap_cons]
      rcases k with _ | _ | k
      · simp
      · simp; omega
      · show ((List.replicate m ()).flatMap fun _ => [a, b])[k]? = _
        rw [ih]
        have e1 : (k + 1 + 1) % 2 = k % 2 := by omega
        rw [e1]
        by_cases h : k < m * 2
        · have e2 : k + 1 + 1 < (m + 1) * 2 := by omega
          simp only [h, e2, if_true]
        · have e2 : ¬ k + 1 + 1 < (m + 1) * 2 := by omega
          simp only [h, e2, if_false]
  rw [hr]
  unfold madeCells
  by_cases hj : j < n * 2
  · rw [if_pos hj]
    rcases Nat.mod_two_eq_zero_or_one j with h | h <;> simp [hj, h]
  · rw [if_neg hj]
    simp [hj]
theorem lcells_rep (p : Lv) : ∀ n : Nat, lcells (List.replicate n p) = (List.replicate n ()).flatMap fun _ => [.int .i64 (costO p.1), p.2]
  | 0 => rfl
  | n + 1 => by
    rw [List.replicate_succ, List.replicate_succ, List.flatMap_cons, ← lcells_rep p n]
    rfl
/-- 'make([]label, n)'. -/
theorem mk_labs {w : World} {ops : Array Oper} {rest : List Oper} {o : Oper} {a : Act} {Q : Exit → Act → World → Prop} (hgd : o.guard = none) (l c : Operand)
    (ho : o.op = Op.makeSlice 49 l c) (n : Nat) (hl : a.eval l = .int .i64 (n : Int)) (hc : a.eval c = .int .i64 (n : Int)) (hn : n ≤ 1099511627776)
    (h : ∀ w', Own w w' [eLab (.slice (some ⟨w.heap.size, 0, none⟩) n n) (List.replicate n (some (0, []), .slice none 0 0))] [] → wpList Tryd.prog ops Q rest (a.put o.dst (.slice (some ⟨w.heap.size, 0, none⟩) n n)) w') : wpList Tryd.prog ops Q (o :: rest) a w := by
  obtain ⟨i0, hi, hz0, hz1, hz2⟩ := info_parts infoLab
  refine wpList_make_full w hgd l c 49 ho w.heap.size 51 i0 (.agg #[.int .i64 0, .slice none 0 0]) 2 Tryd.underlying49 hi hz0 hz1 .i64 .i64 _ _ n hl hc rfl rfl (by rw [hz2]; omega) (by unfold maxLen; omega) (Nat.le_refl _) ?_
  intro w' hown hg
  refine h w' ⟨(Below.refl _ _).grown hg (Nat.le_refl _) (fun k hk => by cases hk), fun e he => ?_, fun e he => by simp at he, by simp, fun e _ f hf => by simp at hf⟩
  have e' : (madeCells (Value.agg #[.int .i64 0, .slice none 0 0]).cells (n * 2)).toList = lcells (List.replicate n (some (0, []), .slice none 0 0)) := by
    have : (Value.agg #[.int .i64 0, .slice none 0 0]).cells = #[.int .i64 0, .slice none 0 0] := rfl
    rw [this, made_two, lcells_rep]
    rfl
  simp at he; subst he
  rw [e'] at hown
  unfold eLab
  rw [List.length_replicate]
  exact hown
/-- Words that labels have: each is owned. -/
def Words (fs : List Ent) (l : List Lv) : Prop := ∀ p ∈ l, ∃ z, eInts p.2 z ∈ fs ∧ (∀ y ∈ z, Small y) ∧ ∀ x, p.1 = some x → x.2 = z
/-- A label as a value. -/
def LabAt (w : World) (v : Value) (o : Option Lb) : Prop := ∃ A c z, v = .agg #[.int .i64 (costO o), .slice A z.length c] ∧ IntsAt w w.heap.size A z ∧ z.length ≤ c ∧ ∀ x, o = some x → x.2 = z
theorem LabAt.on {w w' : World} {v : Value} {o : Option Lb} (h : LabAt w v o) (hb : Below w.heap.size w w') : LabAt w' v o := by
  obtain ⟨A, c, z, h1, h2, h3⟩ := h
  exact ⟨A, c, z, h1, h2.on hb, h3⟩
/-! ### better -/
set_option maxRecDepth 100000 in
set_option maxHeartbeats 2000000 in
theorem better_any (va vb : Value) (a b : Option Lb) (w : World) (ha : LabAt w va a) (hb : LabAt w vb b) (la : ∀ x, a = some x → x.2.length ≤ 1000000) (lb : ∀ x, b = some x → x.2.length ≤ 1000000) :
    Calls Tryd.prog 23 #[va, vb] w fun e w' => Hid (e = .returned (.bool (btr a b))) ∧ Below w.heap.size w w' := by
  have HA := Lib.hid ha
  have HB := Lib.hid hb
  obtain ⟨A, c, z, rfl, hA, _, hza⟩ := ha
  obtain ⟨B, d, y, rfl, hB, _, hyb⟩ := hb
  have hBl : Below w.heap.size w ((w.alloc (.cells #[.int .i64 (costO a), .slice A z.length c] 51)).alloc (.cells #[.int .i64 (costO b), .slice B y.length d] 51)) := (below_alloc _ _).alloc (by simp) _
  have HBl := Lib.hid hBl
  rcases a with _ | xa
  · have HR : Hid (btr none b = false) := rfl
    have h1 : costO none = -1 := rfl
    rw [h1]
    rw [h1] at HBl
    clear hA hB hza hyb HA HB la lb hBl h1
    generalize z.length = n at *
    generalize y.length = m at *
    generalize costO b = cb at *
    go_enter Tryd.func23, Tryd.ntmps23
    go_wp2
    go_ret
    exact ⟨by rw [HR.out]; rfl, HBl.out⟩
  · rcases b with _ | xb
    · have HR : Hid (btr (some xa) none = true) := rfl
      have h1 : costO none = -1 := rfl
      have h2 : costO (some xa) = (xa.1 : Int) := rfl
      have h3 : (0 : Int) ≤ (xa.1 : Int) := by omega
      rw [h1, h2]
      rw [h1, h2] at HBl
      clear hA hB hza hyb HA HB la lb hBl h1 h2
      generalize z.length = n at *
      generalize y.length = m at *
      generalize (xa.1 : Int) = ca at *
      go_enter Tryd.func23, Tryd.ntmps23
      go_wp2
      go_ret
      exact ⟨by rw [HR.out]; rfl, HBl.out⟩
    · have h1 : costO (some xa) = (xa.1 : Int) := rfl
      have h2 : costO (some xb) = (xb.1 : Int) := rfl
      have h3 : (0 : Int) ≤ (xa.1 : Int) := by omega
      have h4 : (0 : Int) ≤ (xb.1 : Int) := by omega
      have HR : Hid (btr (some xa) (some xb) = if xa.1 = xb.1 then lss xa.2 xb.2 else decide (xa.1 < xb.1)) := rfl
      rw [h1, h2]
      rw [h1, h2] at HBl
      obtain rfl := hza xa rfl
      obtain rfl := hyb xb rfl
      have HL := Lib.hid (refLess_any A c xa.2 B d xb.2 _ (hA.on hBl) (hB.on hBl) (la xa rfl) (lb xb rfl))
      rw [h1, h2] at HL
      clear hA hB hza hyb HA HB la lb hBl h1 h2
      by_cases he : xa.1 = xb.1
      · rw [if_pos he] at HR
        rw [he] at HL HBl ⊢
        have h5 : ((xb.1 : Int) != (xb.1 : Int)) = false := bne_self_eq_false _
        clear he h3
        generalize (xb.1 : Int) = cb at *
        generalize lss xa.2 xb.2 = r at *
        generalize xa.2.length = n at *
        generalize xb.2.length = m at *
        go_enter Tryd.func23, Tryd.ntmps23
        go_wp2_with fail
        refine HL.out.mono ?_
        rintro e w2 ⟨he, k, rfl⟩
        obtain rfl := he.out
        clear HL he
        go_wp2
        go_ret
        exact ⟨by rw [HR.out]; rfl, below_drewN HBl.out k⟩
      · rw [if_neg he] at HR
        have h5 : ((xa.1 : Int) != (xb.1 : Int)) = true := by simp; omega
        have h6 : decide ((xa.1 : Int) < (xb.1 : Int)) = decide (xa.1 < xb.1) := by simp
        clear HL he
        generalize hd : decide (xa.1 < xb.1) = r at *
        clear hd
        generalize (xb.1 : Int) = cb at *
        generalize (xa.1 : Int) = ca at *
        generalize xa.2.length = n at *
        generalize xb.2.length = m at *
        go_enter Tryd.func23, Tryd.ntmps23
        go_wp2
        go_ret
        exact ⟨by rw [HR.out]; rfl, HBl.out⟩
/-! ### with -/
theorem results_lab {fn : Func} {t : Tmp} (h : fn.results = #[.cell t 51]) (tmps : Array Value) {w : World} {g : Nat} {v0 v1 : Value} (hp : tmps.getD t undef = .pointer (some ⟨g, 0, none⟩)) (c0 : w.cell? ⟨g, 0, none⟩ = some v0) (c1 : w.cell? ⟨g, 1, none⟩ = some v1) :
    (results fn tmps).run Tryd.prog w = .ok (.agg #[v0, v1]) w := by
  have hp' : tmps[t]?.getD undef = .pointer (some ⟨g, 0, none⟩) := by simpa using hp
  simp [results, h, hp', go_sem, c0, c1]
set_option maxRecDepth 100000 in
set_option maxHeartbeats 2000000 in
theorem with_any (v : Value) (x : Lb) (p a : Int) (w : World) (h : LabAt w v (some x)) (hl : x.2.length ≤ 1000000) (h0 : x.1 ≤ 1000000) (hp0 : 0 ≤ p) (hp1 : p ≤ 1) :
    Calls Tryd.prog 22 #[v, .int .i64 p, .int .i64 a] w fun e w' => Hid (∃ u, e = .returned (.agg #[.int .i64 ((x.1 : Int) + p), u]) ∧ Own w w' [] [eInts u (x.2 ++ [a])]) := by
  obtain ⟨A, c, z, rfl, hA, _, hz⟩ := h
  obtain rfl := hz x rfl
  have hcx : costO (some x) = (x.1 : Int) := rfl
  rw [hcx]
  have hO0 : Own w (w.alloc (.cells #[.int .i64 ((x.1 : Int)), .slice A x.2.length c] 51)) [] [] := (own_start w).alloc _
  have hO := Own.lit hO0 51 2 1 #[.int .i64 0, .slice none 0 0] rfl (by simp [maxLen])
  have hs1 : (w.alloc (.cells #[.int .i64 ((x.1 : Int)), .slice A x.2.length c] 51)).heap.size = w.heap.size + 1 := by simp
  rw [hs1] at hO
  obtain ⟨b0, b1⟩ : ((w.alloc (.cells #[.int .i64 ((x.1 : Int)), .slice A x.2.length c] 51)).alloc (.cells #[.int .i64 0, .slice none 0 0] 51)).cell? ⟨w.heap.size, 0, none⟩ = some (.int .i64 ((x.1 : Int))) ∧ ((w.alloc (.cells #[.int .i64 ((x.1 : Int)), .slice A x.2.length c] 51)).alloc (.cells #[.int .i64 0, .slice none 0 0] 51)).cell? ⟨w.heap.size, 1, none⟩ = some (.slice A x.2.length c) := by
    constructor
    · rw [World.cell?_alloc_lt _ _ ⟨w.heap.size, 0, none⟩ (by simp)]; exact cell_of_row _ _ 0 _ _ _ (heap_alloc_new w _)
    · rw [World.cell?_alloc_lt _ _ ⟨w.heap.size, 1, none⟩ (by simp)]; exact cell_of_row _ _ 1 _ _ _ (heap_alloc_new w _)
  have hb2 : Below w.heap.size w ((w.alloc (.cells #[.int .i64 ((x.1 : Int)), .slice A x.2.length c] 51)).alloc (.cells #[.int .i64 0, .slice none 0 0] 51)) := hO.below
  obtain ⟨w2, hw2⟩ : ∃ w2, w2 = ((w.alloc (.cells #[.int .i64 ((x.1 : Int)), .slice A x.2.length c] 51)).alloc (.cells #[.int .i64 0, .slice none 0 0] 51)) := ⟨_, rfl⟩
  rw [← hw2] at hO b0 b1 hb2
  have HW := Lib.hid hw2
  have HO := Lib.hid hO
  have HA := Lib.hid (hA.on hb2)
  have HN := Lib.hid (nums_nil w2)
  have HB := Lib.hid (show w2.cell? ⟨w.heap.size, 0, none⟩ = some (.int .i64 ((x.1 : Int))) ∧ w.heap.size < w2.heap.size from ⟨b0, World.block_lt_of_cell? _ _ b0⟩)
  have hadd : IntKind.i64.wrap ((x.1 : Int) + p) = (x.1 : Int) + p := IntWalk.i64_in _ ⟨by omega, by omega⟩
  clear hO hO0 hs1 hw2 hA hb2
  obtain ⟨n, hn⟩ : ∃ n, x.2.length = n := ⟨_, rfl⟩
  have hn2 := hl
  rw [hn] at b1 HW hn2
  rw [hn]
  have HLn := Lib.hid hn
  clear hl hn
  go_enter Tryd.func22, Tryd.ntmps22
  go_wp2_with (at_builtin; rw [← HW.out]; refine app_ints (l := x.2) (acc := []) rfl _ _ rfl rfl HN.out (by rw [HLn.out]; rfl) HA.out (by rw [HLn.out]; simp only [List.length_nil]; omega) ?_)
  intro v1 w3 hn3
  have HN3 : Hid (Nums w2.heap.size w2 x.2 v1 w3) := hn3
  clear hn3 HN HA b1
  have b3 := (HN3.out.2.1.cell HB.out.2).trans HB.out.1
  go_wp2_with (at_builtin; refine app_one (acc := x.2) rfl _ _ rfl rfl HN3.out rfl (by rw [HLn.out]; omega) ?_)
  intro v2 w4 hn4
  have hO4 := Own.of_nums hn4
  obtain ⟨A2, c2, hv2, _⟩ := hO4.form (e := eInts v2 (x.2 ++ [a])) (by simp)
  simp only [eInts] at hv2
  subst hv2
  have hJ := (HO.out.join hO4).two
  obtain ⟨r0, f0⟩ := hJ.cell (g := w.heap.size + 1) (xs := [.int .i64 0, .slice none 0 0]) (t := 51) (sz := 2) (n := 1) (cap := 1) (j := 0) (List.mem_append_left _ List.mem_cons_self) rfl
  obtain ⟨r1, f1⟩ := hJ.cell (g := w.heap.size + 1) (xs := [.int .i64 0, .slice none 0 0]) (t := 51) (sz := 2) (n := 1) (cap := 1) (j := 1) (List.mem_append_left _ List.mem_cons_self) rfl
  have b4 := (hn4.2.1.cell (p := ⟨w.heap.size, 0, none⟩) HB.out.2).trans HB.out.1
  have hE := ((hJ.set 0 (.int .i64 ((x.1 : Int) + p))).set 1 (.slice A2 (x.2 ++ [a]).length c2))
  obtain ⟨e0, _⟩ := hE.cell (g := w.heap.size + 1) (xs := [.int .i64 ((x.1 : Int) + p), .slice A2 (x.2 ++ [a]).length c2]) (t := 51) (sz := 2) (n := 1) (cap := 1) (j := 0) (List.mem_append_left _ List.mem_cons_self) rfl
  obtain ⟨e1, _⟩ := hE.cell (g := w.heap.size + 1) (xs := [.int .i64 ((x.1 : Int) + p), .slice A2 (x.2 ++ [a]).length c2]) (t := 51) (sz := 2) (n := 1) (cap := 1) (j := 1) (List.mem_append_left _ List.mem_cons_self) rfl
  have HE := Lib.hid (And.intro hE.tail.fin (And.intro e0 e1))
  clear hn4 HN3 b3 hO4 hJ hE e0 e1
  generalize (x.2 ++ [a]).length = n2 at *
  go_wp2
  exact bodyPost_ret (results_lab rfl _ rfl HE.out.2.1 HE.out.2.2) rfl ⟨_, rfl, HE.out.1⟩
end Go.Proofs.YtfiknbdpjnpkdaaDoor.Me
