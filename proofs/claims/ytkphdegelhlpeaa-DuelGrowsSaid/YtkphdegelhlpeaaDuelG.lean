/- Two arenas that a law makes of one: with one goal more, with a place given to 0; in memory. -/
import Derived.Test.YtkphdegelhlpeaaDuelS
namespace Go.Proofs.Ytkphdegelhlpeaa.Du
open Go.RowKit Go.IntWalk Go.Proofs.Ytkphdegelhlpeaa.Wd Go.Proofs.Ytkphdegelhlpeaa.Wo Go.Proofs.Ytkphdegelhlpeaa.Df Go.Proofs.Ytkphdegelhlpeaa.Rc

def arB (a : Ar) (p : Nat) : Ar := ⟨a.own, a.next, a.goal.set p true⟩
def arC (a : Ar) (p : Nat) : Ar := ⟨a.own.set p 0, a.next, a.goal⟩
theorem goal_b {a : Ar} {p q : Nat} (h : goalA a q = true) : goalA (arB a p) q = true := by
  show ((a.goal.set p true)[q]?).getD false = true
  rw [List.getElem?_set]
  by_cases e : p = q
  · subst e
    rw [if_pos rfl]
    split
    · rfl
    · rename_i h1
      unfold goalA at h
      rw [List.getElem?_eq_none (by omega)] at h
      cases h
  · rw [if_neg e]; exact h
theorem goal_bp {a : Ar} {p : Nat} (hp : p < a.goal.length) : goalA (arB a p) p = true := by
  show ((a.goal.set p true)[p]?).getD false = true
  rw [List.getElem?_set, if_pos rfl, if_pos hp]; rfl
theorem own_c {a : Ar} {p q : Nat} : ownA (arC a p) q = ownA a q ∨ ownA (arC a p) q = 0 := by
  show ((a.own.set p 0)[q]?).getD 0 = _ ∨ ((a.own.set p 0)[q]?).getD 0 = 0
  rw [List.getElem?_set]
  by_cases e : p = q
  · rw [if_pos e]
    split
    · exact .inr rfl
    · exact .inr rfl
  · rw [if_neg e]; exact .inl rfl
theorem good_b {a : Ar} (g : Good a) (p : Nat) : Good (arB a p) := ⟨g.n1, g.n40, g.own, by show (a.goal.set p true).length = _; rw [List.length_set]; exact g.goal, g.fit⟩
theorem good_c {a : Ar} (g : Good a) (p : Nat) : Good (arC a p) := ⟨g.n1, g.n40, by show (a.own.set p 0).length = _; rw [List.length_set]; exact g.own, g.goal, fun q hq => by
  have h := g.fit q hq
  refine ⟨?_, h.r1, h.r40, h.go⟩
  rcases own_c (a := a) (p := p) (q := q) with e | e
  · rw [e]; exact h.own
  · exact .inl e⟩
theorem rank_b {a : Ar} (g : Good a) (p : Nat) {q : Nat} (hq : q < a.next.length) (h : 0 ≤ rank a q) : 0 ≤ rank (arB a p) q ∧ rank (arB a p) q ≤ rank a q :=
  rank_grows g (good_b g p) rfl (fun _ hg => goal_b hg) (fun _ _ => .inl rfl) hq h
theorem rank_c {a : Ar} (g : Good a) (p : Nat) {q : Nat} (hq : q < a.next.length) (h : 0 ≤ rank a q) : 0 ≤ rank (arC a p) q ∧ rank (arC a p) q ≤ rank a q :=
  rank_grows g (good_c g p) rfl (fun _ hg => hg) (fun _ _ => own_c) hq h
theorem rank_bp {a : Ar} (g : Good a) {p : Nat} (hp : p < a.next.length) : rank (arB a p) p = 0 :=
  (rank_goal (good_b g p) hp).2 (goal_bp (by rw [g.goal]; exact hp))

/-! ### in memory -/
/-- A struct of an arena in a block of its own. -/
def eAr (g : Nat) (l : List Value) : Ent := ⟨26, 3, .slice (some ⟨g, 0, none⟩) 1 1, 1, l⟩
theorem own_ar {w0 w : World} {es fs : List Ent} (h : Own w0 w es fs) (a b c : Value) : Own w0 (w.alloc (.cells #[a, b, c] 26)) (eAr w.heap.size [a, b, c] :: es) fs :=
  h.lit _ 3 1 #[a, b, c] rfl (by simp [maxLen])
/-- 'append(l, m...)' of at least one bool. -/
theorem own_bools_all {w0 w : World} {ops : Array Oper} {rest : List Oper} {o : Oper} {a : Act} {Q : Exit → Act → World → Prop} (hgd : o.guard = none) (s x : Operand)
    (ho : o.op = .call { callee := .builtin .append, args := #[s, x], argTypes := #[24, 24] })
    {v : Value} {l : List Bool} {es fs : List Ent} (hs : a.eval s = v) (h : Own w0 w (eBools v l :: es) fs) {ad : Addr} {c : Nat} {m : List Bool} (hx : a.eval x = .slice (some ad) m.length c) (hA : BoolsAt w w.heap.size (some ad) m) (hm : 0 < m.length) (hb : l.length + m.length ≤ 17592186044416)
    (hK : ∀ g cap w', Own w0 w' (eBools (.slice (some ⟨g, 0, none⟩) (l.length + m.length) cap) (l ++ m) :: es) fs → wpList Try.prog ops Q rest (a.put o.dst (.slice (some ⟨g, 0, none⟩) (l.length + m.length) cap)) w') : wpList Try.prog ops Q (o :: rest) a w := by
  refine own_append hgd s x _ ho Try.underlying24 infoBool rfl (by decide) hs h (m.map Value.bool) hx (by simp) (fun j u hj => ?_) (fun u hu => ?_) hm (by unfold maxLen; omega) (by omega) ?_
  · obtain ⟨ad', e, _, hc⟩ := hA j u hj
    obtain rfl := Option.some.inj e
    exact hc
  · obtain ⟨b, _, rfl⟩ := List.mem_map.1 hu
    rfl
  · intro g cap w' ho
    refine hK g cap w' ?_
    unfold eBools
    simpa using ho
/-- Both arenas: their owners, their goals, their structs. -/
def GW (w0 w : World) (gb gc : Nat) (bo bg co cg : Value) (lbo : List Int) (lbg : List Bool) (lco : List Int) (lcg : List Bool) (sb sc : List Value) : Prop :=
  Own w0 w [eInts bo lbo, eBools bg lbg, eInts co lco, eBools cg lcg, eAr gb sb, eAr gc sc] []
section
variable {w0 w : World} {gb gc : Nat} {bo bg co cg : Value} {lbo : List Int} {lbg : List Bool} {lco : List Int} {lcg : List Bool} {sb sc : List Value}
theorem GW.on {w' : World} (h : GW w0 w gb gc bo bg co cg lbo lbg lco lcg sb sc) (hb : Below w.heap.size w w') : GW w0 w' gb gc bo bg co cg lbo lbg lco lcg sb sc := Own.on h hb
theorem GW.below (h : GW w0 w gb gc bo bg co cg lbo lbg lco lcg sb sc) : Below w0.heap.size w0 w := Own.below h
theorem GW.cellb (h : GW w0 w gb gc bo bg co cg lbo lbg lco lcg sb sc) {j : Nat} {u : Value} (hj : sb[j]? = some u) : w.cell? ⟨gb, j, none⟩ = some u ∧ w.frozen? ⟨gb, j, none⟩ = false := Own.cell h (t := 26) (sz := 3) (n := 1) (cap := 1) (xs := sb) (by simp [eAr]) hj
theorem GW.cellc (h : GW w0 w gb gc bo bg co cg lbo lbg lco lcg sb sc) {j : Nat} {u : Value} (hj : sc[j]? = some u) : w.cell? ⟨gc, j, none⟩ = some u ∧ w.frozen? ⟨gc, j, none⟩ = false := Own.cell h (t := 26) (sz := 3) (n := 1) (cap := 1) (xs := sc) (by simp [eAr]) hj
theorem GW.setb (h : GW w0 w gb gc bo bg co cg lbo lbg lco lcg sb sc) (j : Nat) (u : Value) : GW w0 (w.setCell ⟨gb, j, none⟩ u) gb gc bo bg co cg lbo lbg lco lcg (sb.set j u) sc := by
  have h1 := Own.pull 4 h (by simp)
  have h2 := Own.set (t := 26) (sz := 3) (n := 1) (cap := 1) (xs := sb) h1 j u
  exact Own.put 4 (by simp) h2
theorem GW.setc (h : GW w0 w gb gc bo bg co cg lbo lbg lco lcg sb sc) (j : Nat) (u : Value) : GW w0 (w.setCell ⟨gc, j, none⟩ u) gb gc bo bg co cg lbo lbg lco lcg sb (sc.set j u) := by
  have h1 := Own.pull 5 h (by simp)
  have h2 := Own.set (t := 26) (sz := 3) (n := 1) (cap := 1) (xs := sc) h1 j u
  exact Own.put 5 (by simp) h2
end
theorem GW.goalb {w0 w : World} {gb gc g n cap : Nat} {bo co cg : Value} {lbo : List Int} {lbg : List Bool} {lco : List Int} {lcg : List Bool} {sb sc : List Value} (h : GW w0 w gb gc bo (.slice (some ⟨g, 0, none⟩) n cap) co cg lbo lbg lco lcg sb sc) (hl : lbg.length = n) (j : Nat) (x : Bool) :
    GW w0 (w.setCell ⟨g, j, none⟩ (.bool x)) gb gc bo (.slice (some ⟨g, 0, none⟩) n cap) co cg lbo (lbg.set j x) lco lcg sb sc := by
  have h1 := Own.pull 1 h (by simp)
  have h2 := own_bools_set h1 hl j x
  exact Own.put 1 (by simp) h2
theorem GW.ownc {w0 w : World} {gb gc g n cap : Nat} {bo bg cg : Value} {lbo : List Int} {lbg : List Bool} {lco : List Int} {lcg : List Bool} {sb sc : List Value} (h : GW w0 w gb gc bo bg (.slice (some ⟨g, 0, none⟩) n cap) cg lbo lbg lco lcg sb sc) (hl : lco.length = n) (j : Nat) (x : Int) :
    GW w0 (w.setCell ⟨g, j, none⟩ (.int .i64 x)) gb gc bo bg (.slice (some ⟨g, 0, none⟩) n cap) cg lbo lbg (lco.set j x) lcg sb sc := by
  have h1 := Own.pull 2 h (by simp)
  have h2 := own_ints_set h1 hl j x
  exact Own.put 2 (by simp) h2
theorem GW.goalcell {w0 w : World} {gb gc g n cap : Nat} {bo co cg : Value} {lbo : List Int} {lbg : List Bool} {lco : List Int} {lcg : List Bool} {sb sc : List Value} (h : GW w0 w gb gc bo (.slice (some ⟨g, 0, none⟩) n cap) co cg lbo lbg lco lcg sb sc) (hl : lbg.length = n) {j : Nat} (hj : j < n) :
    (∃ x, w.cell? ⟨g, j, none⟩ = some (.bool x)) ∧ w.frozen? ⟨g, j, none⟩ = false := by
  obtain ⟨h1, h2⟩ := own_bools_cell (g := g) (cap := cap) (l := lbg) h (by simp) hl (List.getElem?_eq_getElem (show j < lbg.length by omega))
  exact ⟨⟨_, h1⟩, h2⟩
theorem GW.owncell {w0 w : World} {gb gc g n cap : Nat} {bo bg cg : Value} {lbo : List Int} {lbg : List Bool} {lco : List Int} {lcg : List Bool} {sb sc : List Value} (h : GW w0 w gb gc bo bg (.slice (some ⟨g, 0, none⟩) n cap) cg lbo lbg lco lcg sb sc) (hl : lco.length = n) {j : Nat} (hj : j < n) :
    (∃ x, w.cell? ⟨g, j, none⟩ = some (.int .i64 x)) ∧ w.frozen? ⟨g, j, none⟩ = false := by
  obtain ⟨h1, h2⟩ := own_ints_cell (g := g) (cap := cap) (l := lco) h (by simp) hl (List.getElem?_eq_getElem (show j < lco.length by omega))
  exact ⟨⟨_, h1⟩, h2⟩
theorem gw_new (w0 : World) (nv : Value) (g : Nat) (hg : g = w0.heap.size) (w : World) (hw : w = (w0.alloc (.cells #[.slice none 0 0, nv, .slice none 0 0] 26)).alloc (.cells #[.slice none 0 0, nv, .slice none 0 0] 26)) :
    GW w0 w g (g + 1) (.slice none 0 0) (.slice none 0 0) (.slice none 0 0) (.slice none 0 0) [] [] [] [] [.slice none 0 0, nv, .slice none 0 0] [.slice none 0 0, nv, .slice none 0 0] := by
  have h1 := own_ar (own_ar (own_start w0) (.slice none 0 0) nv (.slice none 0 0)) (.slice none 0 0) nv (.slice none 0 0)
  rw [size_dal, ← hg] at h1
  subst hw
  have h2 := ((((h1.two).nil 4 1).nil 3 1).nil 4 1).nil 3 1
  exact h2
/-! ### their owners and goals are laid -/
theorem app_ints {w0 w : World} {ops : Array Oper} {rest : List Oper} {o : Oper} {a : Act} {Q : Exit → Act → World → Prop} (hgd : o.guard = none) (s x : Operand)
    (ho : o.op = .call { callee := .builtin .append, args := #[s, x], argTypes := #[22, 22] })
    {es fs : List Ent} (hs : a.eval s = .slice none 0 0) (h : Own w0 w (eInts (.slice none 0 0) [] :: es) fs) {ad : Addr} {c n : Nat} {m : List Int} (hn : m.length = n) (hx : a.eval x = .slice (some ad) n c) (hA : IntsAt w w.heap.size (some ad) m) (h0 : 0 < n) (hb : n ≤ 40)
    (hK : ∀ g cap w', Own w0 w' (eInts (.slice (some ⟨g, 0, none⟩) n cap) m :: es) fs → wpList Try.prog ops Q rest (a.put o.dst (.slice (some ⟨g, 0, none⟩) n cap)) w') : wpList Try.prog ops Q (o :: rest) a w := by
  subst hn
  refine own_ints hgd s x ho hs h hx hA h0 (by simp only [List.length_nil]; omega) ?_
  intro g cap w' ho
  have := hK g cap w'
  simp only [List.length_nil, Nat.zero_add, List.nil_append] at ho ⊢
  exact this ho
theorem app_bools {w0 w : World} {ops : Array Oper} {rest : List Oper} {o : Oper} {a : Act} {Q : Exit → Act → World → Prop} (hgd : o.guard = none) (s x : Operand)
    (ho : o.op = .call { callee := .builtin .append, args := #[s, x], argTypes := #[24, 24] })
    {es fs : List Ent} (hs : a.eval s = .slice none 0 0) (h : Own w0 w (eBools (.slice none 0 0) [] :: es) fs) {ad : Addr} {c n : Nat} {m : List Bool} (hn : m.length = n) (hx : a.eval x = .slice (some ad) n c) (hA : BoolsAt w w.heap.size (some ad) m) (h0 : 0 < n) (hb : n ≤ 40)
    (hK : ∀ g cap w', Own w0 w' (eBools (.slice (some ⟨g, 0, none⟩) n cap) m :: es) fs → wpList Try.prog ops Q rest (a.put o.dst (.slice (some ⟨g, 0, none⟩) n cap)) w') : wpList Try.prog ops Q (o :: rest) a w := by
  subst hn
  refine own_bools_all hgd s x ho hs h hx hA h0 (by simp only [List.length_nil]; omega) ?_
  intro g cap w' ho
  have := hK g cap w'
  simp only [List.length_nil, Nat.zero_add, List.nil_append] at ho ⊢
  exact this ho
theorem gw_bo {w0 w : World} {ops : Array Oper} {rest : List Oper} {o : Oper} {a : Act} {Q : Exit → Act → World → Prop} (hgd : o.guard = none) (s x : Operand)
    (ho : o.op = .call { callee := .builtin .append, args := #[s, x], argTypes := #[22, 22] })
    {gb gc : Nat} {bg co cg : Value} {lco : List Int} {lbg lcg : List Bool} {sb sc : List Value} (hs : a.eval s = .slice none 0 0) (h : GW w0 w gb gc (.slice none 0 0) bg co cg [] lbg lco lcg sb sc) {ad : Addr} {c n : Nat} {m : List Int} (hn : m.length = n) (hx : a.eval x = .slice (some ad) n c) (hA : IntsAt w w.heap.size (some ad) m) (h0 : 0 < n) (hb : n ≤ 40)
    (hK : ∀ g cap w', GW w0 w' gb gc (.slice (some ⟨g, 0, none⟩) n cap) bg co cg m lbg lco lcg sb sc → wpList Try.prog ops Q rest (a.put o.dst (.slice (some ⟨g, 0, none⟩) n cap)) w') : wpList Try.prog ops Q (o :: rest) a w :=
  app_ints hgd s x ho hs (Own.pull 0 h (by simp)) hn hx hA h0 hb fun g cap w' h2 => hK g cap w' (Own.put 0 (by simp) h2)
theorem gw_bg {w0 w : World} {ops : Array Oper} {rest : List Oper} {o : Oper} {a : Act} {Q : Exit → Act → World → Prop} (hgd : o.guard = none) (s x : Operand)
    (ho : o.op = .call { callee := .builtin .append, args := #[s, x], argTypes := #[24, 24] })
    {gb gc : Nat} {bo co cg : Value} {lbo lco : List Int} {lcg : List Bool} {sb sc : List Value} (hs : a.eval s = .slice none 0 0) (h : GW w0 w gb gc bo (.slice none 0 0) co cg lbo [] lco lcg sb sc) {ad : Addr} {c n : Nat} {m : List Bool} (hn : m.length = n) (hx : a.eval x = .slice (some ad) n c) (hA : BoolsAt w w.heap.size (some ad) m) (h0 : 0 < n) (hb : n ≤ 40)
    (hK : ∀ g cap w', GW w0 w' gb gc bo (.slice (some ⟨g, 0, none⟩) n cap) co cg lbo m lco lcg sb sc → wpList Try.prog ops Q rest (a.put o.dst (.slice (some ⟨g, 0, none⟩) n cap)) w') : wpList Try.prog ops Q (o :: rest) a w :=
  app_bools hgd s x ho hs (Own.pull 1 h (by simp)) hn hx hA h0 hb fun g cap w' h2 => hK g cap w' (Own.put 1 (by simp) h2)
theorem gw_co {w0 w : World} {ops : Array Oper} {rest : List Oper} {o : Oper} {a : Act} {Q : Exit → Act → World → Prop} (hgd : o.guard = none) (s x : Operand)
    (ho : o.op = .call { callee := .builtin .append, args := #[s, x], argTypes := #[22, 22] })
    {gb gc : Nat} {bo bg cg : Value} {lbo : List Int} {lbg lcg : List Bool} {sb sc : List Value} (hs : a.eval s = .slice none 0 0) (h : GW w0 w gb gc bo bg (.slice none 0 0) cg lbo lbg [] lcg sb sc) {ad : Addr} {c n : Nat} {m : List Int} (hn : m.length = n) (hx : a.eval x = .slice (some ad) n c) (hA : IntsAt w w.heap.size (some ad) m) (h0 : 0 < n) (hb : n ≤ 40)
    (hK : ∀ g cap w', GW w0 w' gb gc bo bg (.slice (some ⟨g, 0, none⟩) n cap) cg lbo lbg m lcg sb sc → wpList Try.prog ops Q rest (a.put o.dst (.slice (some ⟨g, 0, none⟩) n cap)) w') : wpList Try.prog ops Q (o :: rest) a w :=
  app_ints hgd s x ho hs (Own.pull 2 h (by simp)) hn hx hA h0 hb fun g cap w' h2 => hK g cap w' (Own.put 2 (by simp) h2)
theorem gw_cg {w0 w : World} {ops : Array Oper} {rest : List Oper} {o : Oper} {a : Act} {Q : Exit → Act → World → Prop} (hgd : o.guard = none) (s x : Operand)
    (ho : o.op = .call { callee := .builtin .append, args := #[s, x], argTypes := #[24, 24] })
    {gb gc : Nat} {bo bg co : Value} {lbo lco : List Int} {lbg : List Bool} {sb sc : List Value} (hs : a.eval s = .slice none 0 0) (h : GW w0 w gb gc bo bg co (.slice none 0 0) lbo lbg lco [] sb sc) {ad : Addr} {c n : Nat} {m : List Bool} (hn : m.length = n) (hx : a.eval x = .slice (some ad) n c) (hA : BoolsAt w w.heap.size (some ad) m) (h0 : 0 < n) (hb : n ≤ 40)
    (hK : ∀ g cap w', GW w0 w' gb gc bo bg co (.slice (some ⟨g, 0, none⟩) n cap) lbo lbg lco m sb sc → wpList Try.prog ops Q rest (a.put o.dst (.slice (some ⟨g, 0, none⟩) n cap)) w') : wpList Try.prog ops Q (o :: rest) a w :=
  app_bools hgd s x ho hs (Own.pull 3 h (by simp)) hn hx hA h0 hb fun g cap w' h2 => hK g cap w' (Own.put 3 (by simp) h2)
/-- Blocks of rows that are owned are apart. -/
theorem far_ne {e f : Ent} {g k : Nat} (h : far e f) (he : e.v.ownBlock = some g) (hf : f.v.ownBlock = some k) : g ≠ k := by
  rcases h with h | h
  · rw [he] at h; cases h
  · rw [he, hf] at h
    exact fun q => h (by rw [q])
/-- What is in them. -/
theorem gw_at {w0 w : World} {gb gc n cb cc : Nat} {O F : Option Addr} {co cg : Value} {lbo : List Int} {lbg : List Bool} {lco : List Int} {lcg : List Bool} {sb sc : List Value} {A : Option Addr} {c : Nat} {nx : List (List Int)}
    (h : GW w0 w gb gc (.slice O n cb) (.slice F n cc) co cg lbo lbg lco lcg sb sc) (hs : ∀ x ∈ lbo, Small x) (h1 : lbo.length = n) (h2 : lbg.length = n) (h3 : nx.length = n) (hc : n ≤ c) (hc2 : c ≤ 9223372036854775807) (hr : RowsAt w w.heap.size A nx) :
    ArAt w w.heap.size (.agg #[.slice O n cb, .slice A n c, .slice F n cc]) ⟨lbo, nx, lbg⟩ := by
  obtain ⟨O', co', e1, a1, a2, a3⟩ := own_ints_at h (v := .slice O n cb) (l := lbo) (by simp) hs
  obtain ⟨F', cf', e2, b1, b2, b3⟩ := own_bools h (fv := .slice F n cc) (bs := lbg) (by simp)
  subst h1
  exact ⟨O', co', A, c, F', cf', by rw [e1, e2]; simp only [h3], a1, a2, by show nx.length ≤ c; omega, hc2, b1, b2, a3, hr, b3⟩
theorem gw_atc {w0 w : World} {gb gc n cb cc : Nat} {O F : Option Addr} {bo bg : Value} {lbo : List Int} {lbg : List Bool} {lco : List Int} {lcg : List Bool} {sb sc : List Value} {A : Option Addr} {c : Nat} {nx : List (List Int)}
    (h : GW w0 w gb gc bo bg (.slice O n cb) (.slice F n cc) lbo lbg lco lcg sb sc) (hs : ∀ x ∈ lco, Small x) (h1 : lco.length = n) (h2 : lcg.length = n) (h3 : nx.length = n) (hc : n ≤ c) (hc2 : c ≤ 9223372036854775807) (hr : RowsAt w w.heap.size A nx) :
    ArAt w w.heap.size (.agg #[.slice O n cb, .slice A n c, .slice F n cc]) ⟨lco, nx, lcg⟩ := by
  obtain ⟨O', co', e1, a1, a2, a3⟩ := own_ints_at h (v := .slice O n cb) (l := lco) (by simp) hs
  obtain ⟨F', cf', e2, b1, b2, b3⟩ := own_bools h (fv := .slice F n cc) (bs := lcg) (by simp)
  subst h1
  exact ⟨O', co', A, c, F', cf', by rw [e1, e2]; simp only [h3], a1, a2, by show nx.length ≤ c; omega, hc2, b1, b2, a3, hr, b3⟩
end Go.Proofs.Ytkphdegelhlpeaa.Du
