/- The walks of the laws' own helpers over formulas: more, known. -/
import Derived.Test.YtloihkoamccacaaMeanH
import Derived.Maps.AppendAt
namespace Go.Proofs.Ytloihkoamccacaa.Fm
open Go.RowKit Go.IntWalk Go.Proofs.Ytloihkoamccacaa.Wd Go.Proofs.Ytloihkoamccacaa.Wo

theorem ncells_one (l : List Nd) : ∀ u ∈ ncells l, u.oneCell' = true := by
  intro u hu
  obtain ⟨m, _, h⟩ := List.mem_flatMap.1 hu
  simp at h
  rcases h with rfl | rfl | rfl <;> rfl
/-- 'append(l, m...)' of at least one node. -/
theorem own_nodes_more {w0 w : World} {ops : Array Oper} {rest : List Oper} {o : Oper} {a : Act} {Q : Exit → Act → World → Prop} (hgd : o.guard = none) (s x : Operand)
    (ho : o.op = .call { callee := .builtin .append, args := #[s, x], argTypes := #[40, 40] })
    {v : Value} {l : List Nd} {es fs : List Ent} (hs : a.eval s = v) (h : Own w0 w (eNodes v l :: es) fs) {ad : Addr} {c : Nat} {m : List Nd} (hx : a.eval x = .slice (some ad) m.length c) (hA : NodesAt w w.heap.size (some ad) m) (hm : 0 < m.length) (hb : l.length + m.length ≤ 5864062014805)
    (hK : ∀ g cap w', Own w0 w' (eNodes (.slice (some ⟨g, 0, none⟩) (l.length + m.length) cap) (l ++ m) :: es) fs → wpList Try.prog ops Q rest (a.put o.dst (.slice (some ⟨g, 0, none⟩) (l.length + m.length) cap)) w') : wpList Try.prog ops Q (o :: rest) a w := by
  refine own_append hgd s x _ ho Try.underlying40 infoNode rfl (by decide) hs h (ncells m) hx (ncells_length m) (fun j u hj => ?_) (ncells_one m) hm (by unfold maxLen; omega) (by omega) ?_
  · obtain ⟨ad', e, _, hc⟩ := hA.1 j u hj
    obtain rfl := Option.some.inj e
    exact hc
  · intro g cap w' ho
    refine hK g cap w' ?_
    unfold eNodes
    rw [ncells_append]
    simpa using ho
/-- 'append(l, nil...)'. -/
theorem own_nodes_none {w0 w : World} {ops : Array Oper} {rest : List Oper} {o : Oper} {a : Act} {Q : Exit → Act → World → Prop} (hgd : o.guard = none) (s x : Operand)
    (ho : o.op = .call { callee := .builtin .append, args := #[s, x], argTypes := #[40, 40] })
    {v : Value} {l : List Nd} {es fs : List Ent} (hs : a.eval s = v) (h : Own w0 w (eNodes v l :: es) fs) {c : Nat} (hx : a.eval x = .slice none 0 c)
    (hK : wpList Try.prog ops Q rest (a.put o.dst v) w) : wpList Try.prog ops Q (o :: rest) a w := by
  obtain ⟨i0, hi, hz0, hz1, hz2⟩ := info_parts infoNode
  refine wpList_plain hgd fun K hK' => ?_
  have hrun := run_append_empty (w := w) w0.heap.size 40 o.type 44 i0 3 Try.underlying40 hi v l.length (ncells l) (h.each _ List.mem_cons_self) c
  unfold Oper.wp
  simp [execOp, ho, resolve, invoke, builtin, hs, hx, hrun, Result.andThen]
  exact hK' _ _ hK
set_option maxRecDepth 100000 in
set_option maxHeartbeats 1000000 in
theorem more_any (A : Option Addr) (c : Nat) (f : List Nd) (B : Option Addr) (cb : Nat) (m : List Nd) (w : World) (hA : NodesAt w w.heap.size A f) (hB : NodesAt w w.heap.size B m) (hf : 0 < f.length) (hm : 0 < m.length) (hb : f.length + m.length ≤ 5864062014805) :
    Calls Try.prog 21 #[.slice A f.length c, .slice B m.length cb] w fun e w' => Hid (∃ v, e = .returned v ∧ Own w w' [eNodes v (f ++ m)] []) := by
  obtain ⟨ad, rfl⟩ : ∃ ad, A = some ad := by obtain ⟨ad, e, _⟩ := hA.at_ (List.getElem?_eq_getElem hf); exact ⟨ad, e⟩
  obtain ⟨ad2, rfl⟩ : ∃ ad, B = some ad := by obtain ⟨ad, e, _⟩ := hB.at_ (List.getElem?_eq_getElem hm); exact ⟨ad, e⟩
  have HA := Lib.hid hA
  have HB := Lib.hid (fun W (h : Below w.heap.size w W) => hB.on h)
  have h0 : Own w w [eNodes (.slice none 0 0) []] [] := (own_start w).nil 44 3
  have H0 := Lib.hid h0
  have hb1 : ([] : List Nd).length + f.length ≤ 5864062014805 := by simp; omega
  have hb2 : f.length + m.length ≤ 5864062014805 := hb
  clear hA hB h0 hb
  go_enter Try.func21, Try.ntmps21
  go_wp2_with (at_builtin; refine own_nodes_more (by rfl) _ _ (by rfl) (by rfl) H0.out (by rfl) HA.out hf hb1 ?_)
  intro g cap w1 ho
  have HO := Lib.hid ho
  have HB1 := Lib.hid (HB.out w1 ho.below)
  clear ho HB HA H0
  go_wp2_with (at_builtin; refine own_nodes_more (by rfl) _ _ (by rfl) (by rfl) HO.out (by rfl) HB1.out hm hb2 ?_)
  intro g2 cap2 w2 ho2
  have HO2 := Lib.hid ho2
  clear ho2 HO HB1
  go_wp2
  go_ret
  exact ⟨_, rfl, HO2.out⟩
set_option maxRecDepth 100000 in
set_option maxHeartbeats 1000000 in
theorem more_none (A : Option Addr) (c : Nat) (f : List Nd) (w : World) (hA : NodesAt w w.heap.size A f) (hf : 0 < f.length) (hb : f.length ≤ 5864062014805) :
    Calls Try.prog 21 #[.slice A f.length c, .slice none 0 0] w fun e w' => Hid (∃ g cap, e = .returned (.slice (some ⟨g, 0, none⟩) f.length cap) ∧ Own w w' [eNodes (.slice (some ⟨g, 0, none⟩) f.length cap) f] []) := by
  obtain ⟨ad, rfl⟩ : ∃ ad, A = some ad := by obtain ⟨ad, e, _⟩ := hA.at_ (List.getElem?_eq_getElem hf); exact ⟨ad, e⟩
  have HA := Lib.hid hA
  have h0 : Own w w [eNodes (.slice none 0 0) []] [] := (own_start w).nil 44 3
  have H0 := Lib.hid h0
  have hb1 : ([] : List Nd).length + f.length ≤ 5864062014805 := by simp; omega
  clear hA h0 hb
  go_enter Try.func21, Try.ntmps21
  go_wp2_with (at_builtin; refine own_nodes_more (by rfl) _ _ (by rfl) (by rfl) H0.out (by rfl) HA.out hf hb1 ?_)
  intro g cap w1 ho
  have HO := Lib.hid ho
  clear ho HA H0
  go_wp2_with (at_builtin; refine own_nodes_none (by rfl) _ _ (by rfl) (by rfl) HO.out (by rfl) ?_)
  go_wp2
  go_ret
  exact ⟨_, _, rfl, HO.out⟩
/-- A row of nodes that is owned reads as it. -/
theorem more_at {w w' : World} {v : Value} {l : List Nd} (h : Own w w' [eNodes v l] []) (hs : ∀ m ∈ l, NdSmall m) : ∃ A cap, v = .slice A l.length cap ∧ l.length ≤ cap ∧ cap ≤ 9223372036854775807 ∧ NodesAt w' w'.heap.size A l :=
  own_nodes h (by simp) hs
theorem ncells_set : ∀ (l : List Nd) (i : Nat) (k y b y2 : Int), l[i]? = some (k, y, b) → ncells (l.set i (k, y2, b)) = (ncells l).set (i * 3 + 1) (i64 y2)
  | [], i, _, _, _, _, h => by simp at h
  | q :: l, 0, k, y, b, y2, h => by
    simp only [List.getElem?_cons_zero, Option.some.injEq] at h
    subst h
    rfl
  | q :: l, i + 1, k, y, b, y2, h => by
    rw [List.getElem?_cons_succ] at h
    have ih := ncells_set l i k y b y2 h
    have e : ∀ l : List Nd, ncells (q :: l) = i64 q.1 :: i64 q.2.1 :: i64 q.2.2 :: ncells l := fun _ => rfl
    rw [List.set_cons_succ, e, e, ih, show (i + 1) * 3 + 1 = (i * 3 + 1) + 1 + 1 + 1 by omega]
    rfl
/-- 'g[i].A = y2'. -/
theorem own_nodes_set {w0 w : World} {g n cap : Nat} {l : List Nd} (h : Own w0 w [eNodes (.slice (some ⟨g, 0, none⟩) n cap) l] []) (hn : l.length = n) {i : Nat} {k y b : Int} (hi : l[i]? = some (k, y, b)) (y2 : Int) :
    Own w0 (w.setCell ⟨g, i * 3 + 1, none⟩ (.int .i64 y2)) [eNodes (.slice (some ⟨g, 0, none⟩) n cap) (l.set i (k, y2, b))] [] ∧ w.cell? ⟨g, i * 3 + 1, none⟩ = some (.int .i64 y) ∧ w.frozen? ⟨g, i * 3 + 1, none⟩ = false := by
  subst hn
  have h2 := Own.set (t := 44) (sz := 3) (n := l.length) (cap := cap) (xs := ncells l) h (i * 3 + 1) (i64 y2)
  have h3 := Own.cell (t := 44) (sz := 3) (n := l.length) (cap := cap) (g := g) (xs := ncells l) h (by simp [eNodes]) (j := i * 3 + 1) (u := i64 y) ((ncells_get l i _ hi).2.1)
  refine ⟨?_, h3⟩
  unfold eNodes
  rw [ncells_set l i k y b y2 hi, List.length_set]
  exact h2
/-- A literal of nodes. -/
theorem lit_nodes (w : World) (l : List Nd) (t : TypeId) (hl : ∀ m ∈ l, NdSmall m) (cs : Array Value) (hc : cs.toList = ncells l) : NodesAt (w.alloc (.cells cs t)) (w.alloc (.cells cs t)).heap.size (some ⟨w.heap.size, 0, none⟩) l := by
  refine ⟨fun k u hk => ⟨_, rfl, by simp, ?_⟩, hl⟩
  have e : ((⟨w.heap.size, 0, none⟩ : Addr).add k) = ⟨w.heap.size, k, none⟩ := by simp [Addr.add]; intro h; exact h.symm
  rw [e, box_at]
  rw [← hc] at hk
  simpa using hk
/-- A literal of one node. -/
theorem lit_one (w : World) (m : Nd) (t : TypeId) (hm : NdSmall m) : NodesAt (w.alloc (.cells #[.int .i64 m.1, .int .i64 m.2.1, .int .i64 m.2.2] t)) (w.alloc (.cells #[.int .i64 m.1, .int .i64 m.2.1, .int .i64 m.2.2] t)).heap.size (some ⟨w.heap.size, 0, none⟩) [m] :=
  lit_nodes w [m] t (by simpa using hm) _ rfl
/-- A literal of ints. -/
theorem lit_ints (w : World) (l : List Int) (t : TypeId) (hl : ∀ x ∈ l, Small x) (cs : Array Value) (hc : cs.toList = l.map i64) : IntsAt (w.alloc (.cells cs t)) (w.alloc (.cells cs t)).heap.size (some ⟨w.heap.size, 0, none⟩) l := by
  refine ⟨fun k u hk => ⟨_, rfl, by simp, ?_⟩, hl⟩
  have e : ((⟨w.heap.size, 0, none⟩ : Addr).add k) = ⟨w.heap.size, k, none⟩ := by simp [Addr.add]; intro h; exact h.symm
  rw [e, box_at]
  rw [← hc] at hk
  simpa using hk

/-! ### a closed fact -/
def factF : List Nd := [(2, 2, 0), (6, 0, 0)]
theorem fact_good : FGood 2 factF := fchk_iff.1 (by decide)
theorem fact_yes : fval factF [0, 1] = true := by decide
theorem fact_no : fval factF [0, 0] = false := by decide
theorem fact_small : ∀ m ∈ factF, NdSmall m := by intro m hm; simp [factF] at hm; rcases hm with rfl | rfl <;> (unfold NdSmall Sml; decide)
def factW (w : World) (a b : Int) : World := (w.alloc (.cells #[.int .i64 2, .int .i64 2, .int .i64 0, .int .i64 6, .int .i64 0, .int .i64 0] 44)).alloc (.cells #[.int .i64 a, .int .i64 b] 3)
theorem fact_below (w : World) (a b : Int) : Below w.heap.size w (factW w a b) := (bel_alloc _ _).alloc (by simp) _
end Go.Proofs.Ytloihkoamccacaa.Fm
