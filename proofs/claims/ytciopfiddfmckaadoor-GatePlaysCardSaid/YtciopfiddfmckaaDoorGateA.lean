/- A gate in memory; an append behind which the elder list is owned as well. -/
import Derived.Test.YtciopfiddfmckaaDoorGateM
import Derived.Test.YtciopfiddfmckaaDoorDfaP
namespace Go.Proofs.YtciopfiddfmckaaDoor.Wd
open Go.RowKit Go.IntWalk

/-- What was appended to is still there. -/
theorem append_keeps {P : Program} (w : World) (base : Nat) (t ty e : TypeId) (i : TypeInfo) (z : Value) (ht : P.underlying t = some (.slice e)) (hi : P.info? e = some i) (hz : i.zero = some z) (v : Value) (n : Nat) (xs : List Value) (hown : w.ownsRow base e i.size v n xs)
    (a : Addr) (m c : Nat) (news : List Value) (hl : news.length = m * i.size) (hnews : ∀ j u, news[j]? = some u → w.cell? (a.add j) = some u) (h1 : ∀ u ∈ news, u.oneCell' = true) (h63 : n + m ≤ maxLen) (hbytes : (n + m) * i.bytes ≤ 140737488355328)
    {v' : Value} {w' : World} (hr : (Builtin.append_ #[t, t] ty #[v, .slice (some a) m c]).run P w = .ok v' w') : w'.ownsRow base e i.size v n xs := by
  have hsm : n + m ≤ 9223372036854775807 := by simp only [maxLen] at h63; omega
  rcases hown.2 with ⟨rfl, rfl⟩ | ⟨g, cap, cur, rfl, hbg, hg, hnc, hcm, hcs, htake⟩
  · have hx : xs = [] := List.eq_nil_of_length_eq_zero (by simpa using hown.1)
    subst hx
    exact World.ownsRow_nil _ _ _ _
  · by_cases hroom : n + m ≤ cap
    · have hfit : n * i.size + news.length ≤ cur.size := by rw [hl, hcs, ← Nat.add_mul]; exact Nat.mul_le_mul_right _ hroom
      rw [run_append_room (P := P) w t ty e i ht hi g n cap cur hg a m c news hl hnews h1 hroom hfit] at hr
      have hw := (Result.ok.inj hr).2
      subst hw
      refine ⟨hown.1, .inr ⟨g, cap, _, rfl, hbg, setRow_heap w g cur _ e _ hg, hnc, hcm, ?_, ?_⟩⟩
      · simp only [List.size_toArray, List.length_append, List.length_take, List.length_drop, Array.length_toList]
        omega
      · rw [List.append_assoc, htake]
        have hx : n * i.size = xs.length := hown.1.symm
        rw [hx]
        exact List.take_left
    · have holds : ∀ j u, xs[j]? = some u → w.cell? ((⟨g, 0, none⟩ : Addr).add j) = some u := hown.cells (g := g) rfl
      rw [run_append_grow (P := P) w t ty e i z ht hi hz ⟨g, 0, none⟩ n cap xs hown.1 holds a m c news hl hnews (by omega) (by omega) (growslice_fits (by omega) hbytes)] at hr
      have hw := (Result.ok.inj hr).2
      subst hw
      exact owns_on hown ((Below.refl _ _).drew.alloc (Nat.le_refl _) _)
set_option maxRecDepth 100000 in
/-- 'append(l, z)' of one int: behind it what was appended to is owned as well (but not both at once). -/
theorem own_int_both {w0 w : World} {ops : Array Oper} {rest : List Oper} {o : Oper} {a : Act} {Q : Exit → Act → World → Prop} (hgd : o.guard = none) (s x : Operand)
    (ho : o.op = .call { callee := .builtin .append, args := #[s, x], argTypes := #[38, 38] })
    {v : Value} {l : List Int} {es fs : List Ent} (hs : a.eval s = v) (h : Own w0 w (eInts v l :: es) fs) {y : Int} {t' : TypeId} (hx : a.eval x = .slice (some ⟨w.heap.size, 0, none⟩) 1 1) (hb : l.length < 17592186044416)
    (hK : ∀ g cap w', Own w0 w' (eInts (.slice (some ⟨g, 0, none⟩) (l.length + 1) cap) (l ++ [y]) :: es) fs → Own w0 w' (eInts v l :: es) fs → wpList Tryd.prog ops Q rest (a.put o.dst (.slice (some ⟨g, 0, none⟩) (l.length + 1) cap)) w') : wpList Tryd.prog ops Q (o :: rest) a (w.alloc (.cells #[.int .i64 y] t')) := by
  refine wpList_plain hgd fun K hK' => ?_
  obtain ⟨i0, hi, hz0, hz1, hz2⟩ := info_parts infoI
  have h2 := h.alloc (.cells #[.int .i64 y] t')
  have hh : (w.alloc (.cells #[.int .i64 y] t')).ownsRow w0.heap.size 3 1 v l.length (l.map i64) := h2.each _ List.mem_cons_self
  have hn : ∀ j u, [Value.int .i64 y][j]? = some u → (w.alloc (.cells #[.int .i64 y] t')).cell? ((⟨w.heap.size, 0, none⟩ : Addr).add j) = some u := World.news_of_block (heap_alloc_new w _)
  have hone : ∀ u ∈ [Value.int .i64 y], u.oneCell' = true := fun u hu => by simp at hu; subst hu; rfl
  have hA := wp_own_append (K := fun act w' => ∃ g cap, act = a.put o.dst (.slice (some ⟨g, 0, none⟩) (l.length + 1) cap) ∧ Own w0 w' (eInts (.slice (some ⟨g, 0, none⟩) (l.length + 1) cap) (l ++ [y]) :: es) fs) (Q := Q) s x _ ho Tryd.underlying38 infoI rfl (by decide) hs h2 [.int .i64 y] hx rfl hn hone (by omega) (by unfold maxLen; omega) (by omega)
    fun g cap w' ho => ⟨g, cap, rfl, by unfold eInts; simpa [i64] using ho⟩
  obtain ⟨v', w', hr, _⟩ := run_append_own_at (P := Tryd.prog) (w.alloc (.cells #[.int .i64 y] t')) w0.heap.size 38 o.type 3 i0 _ 1 8 Tryd.underlying38 hi hz0 hz1 hz2 rfl (by decide) v l.length (l.map i64) hh ⟨w.heap.size, 0, none⟩ 1 1 [.int .i64 y] rfl hn hone (by unfold maxLen; omega) (by omega) h2.below.size
  have hold : w'.ownsRow w0.heap.size 3 1 v l.length (l.map i64) := by
    have := append_keeps (P := Tryd.prog) (w.alloc (.cells #[.int .i64 y] t')) w0.heap.size 38 o.type 3 i0 _ Tryd.underlying38 hi hz0 v l.length (l.map i64) (by rw [hz1]; exact hh) ⟨w.heap.size, 0, none⟩ 1 1 [.int .i64 y] (by rw [hz1]; rfl) hn hone (by unfold maxLen; omega) (by rw [hz2]; omega) hr
    rwa [hz1] at this
  unfold Oper.wp execOp at hA ⊢
  simp only [ho, resolve, invoke, builtin, Sem.run_bind, Sem.run_pure, Result.andThen_ok, List.map_toArray, List.map_cons, List.map_nil, hs, hx, hr] at hA ⊢
  obtain ⟨g, cap, e, hO⟩ := hA
  show K (a.put o.dst v') w'
  rw [e]
  refine hK' _ _ (hK g cap w' hO ⟨hO.below, fun b hb => ?_, hO.done, h2.apart, h2.off⟩)
  rcases List.mem_cons.1 hb with rfl | hb
  · exact hold
  · exact hO.each b (List.mem_cons_of_mem _ hb)

/-! ### a gate's struct in a block of its own -/
def eGate (g : Nat) (l : List Value) : Ent := ⟨72, 6, .slice (some ⟨g, 0, none⟩) 1 1, 1, l⟩
theorem Own.gate {w0 w : World} {es fs : List Ent} (h : Own w0 w es fs) (a b c d e f : Value) : Own w0 (w.alloc (.cells #[a, b, c, d, e, f] 72)) (eGate w.heap.size [a, b, c, d, e, f] :: es) fs :=
  h.lit _ 6 1 #[a, b, c, d, e, f] rfl (by simp [maxLen])
theorem Own.gcell {w0 w : World} {es fs : List Ent} (h : Own w0 w es fs) {g : Nat} {l : List Value} (he : eGate g l ∈ es ++ fs) {j : Nat} {u : Value} (hj : l[j]? = some u) : w.cell? ⟨g, j, none⟩ = some u ∧ w.frozen? ⟨g, j, none⟩ = false := h.cell he hj
theorem Own.gset {w0 w : World} {es fs : List Ent} {g : Nat} {l : List Value} (h : Own w0 w (eGate g l :: es) fs) (j : Nat) (u : Value) : Own w0 (w.setCell ⟨g, j, none⟩ u) (eGate g (l.set j u) :: es) fs := h.set j u
end Go.Proofs.YtciopfiddfmckaaDoor.Wd
namespace Go.Proofs.YtciopfiddfmckaaDoor.Ga
open Go.RowKit Go.IntWalk Go.Proofs.YtciopfiddfmckaaDoor.Wd Go.Proofs.YtciopfiddfmckaaDoor.Wo Go.Proofs.YtciopfiddfmckaaDoor.Df Go.Proofs.YtciopfiddfmckaaDoor.Rc Go.Proofs.YtciopfiddfmckaaDoor.Sm Go.Proofs.YtciopfiddfmckaaDoor.Sa
/-- A gate that a call has made and still changes: its struct at block g, what has passed at pv; es and fs are owned beside it. -/
structure GateV (w0 w : World) (g : Nat) (d : Aut) (G : Gt) (nv fv pv : Value) (rs : List (Value × List Int)) (es fs : List Ent) : Prop where
  next : d.next = rs.map (·.2)
  small : ∀ p ∈ rs, ∀ x ∈ p.2, Small x
  sL : Small d.L
  ss : Small d.s
  nil0 : G.out = [] → pv = .slice none 0 0
  own : Own w0 w (eGate g [.int .i64 d.L, .int .i64 d.s, nv, fv, pv, .bool G.shut] :: eInts pv G.out :: es) (eRows nv (rs.map (·.1)) :: eBools fv d.fin :: (eEach rs ++ fs))
def GateW (w0 w : World) (g : Nat) (d : Aut) (G : Gt) (es fs : List Ent) : Prop := ∃ nv fv pv rs, GateV w0 w g d G nv fv pv rs es fs
section
variable {w0 w w' : World} {g : Nat} {d : Aut} {G : Gt} {nv fv pv : Value} {rs : List (Value × List Int)} {es fs : List Ent}
theorem GateV.on (h : GateV w0 w g d G nv fv pv rs es fs) (hb : Below w.heap.size w w') : GateV w0 w' g d G nv fv pv rs es fs := ⟨h.next, h.small, h.sL, h.ss, h.nil0, h.own.on hb⟩
theorem GateW.on (h : GateW w0 w g d G es fs) (hb : Below w.heap.size w w') : GateW w0 w' g d G es fs := by
  obtain ⟨nv, fv, pv, rs, h⟩ := h
  exact ⟨nv, fv, pv, rs, h.on hb⟩
theorem GateW.base {w1 : World} (h : GateW w0 w g d G es fs) (hb : Below w1.heap.size w1 w0) : GateW w1 w g d G es fs := by
  obtain ⟨nv, fv, pv, rs, h⟩ := h
  exact ⟨nv, fv, pv, rs, h.next, h.small, h.sL, h.ss, h.nil0, h.own.base hb⟩
theorem GateW.below (h : GateW w0 w g d G es fs) : Below w0.heap.size w0 w := by
  obtain ⟨nv, fv, pv, rs, h⟩ := h
  exact h.own.below
theorem GateV.cell (h : GateV w0 w g d G nv fv pv rs es fs) {j : Nat} {u : Value} (hj : [Value.int .i64 d.L, .int .i64 d.s, nv, fv, pv, .bool G.shut][j]? = some u) : w.cell? ⟨g, j, none⟩ = some u ∧ w.frozen? ⟨g, j, none⟩ = false := h.own.gcell (by simp) hj
theorem GateV.dfa (h : GateV w0 w g d G nv fv pv rs es fs) : DfaAt w w.heap.size (.agg #[.int .i64 d.L, .int .i64 d.s, nv, fv]) d := by
  have h7 := own_dfa (nv := nv) (fv := fv) (rs := rs) (bs := d.fin) (L := d.L) (s := d.s) h.own (by simp) (fun e he => by simp [he]) (by simp) h.small h.sL h.ss
  rw [← h.next] at h7
  exact h7
theorem GateV.forms (h : GateV w0 w g d G nv fv pv rs es fs) : ∃ A c F cf P cp, nv = .slice A d.next.length c ∧ fv = .slice F d.fin.length cf ∧ pv = .slice P G.out.length cp := by
  obtain ⟨A, c, h1, _⟩ := h.own.form (e := eRows nv (rs.map (·.1))) (by simp)
  obtain ⟨F, cf, h2, _⟩ := h.own.form (e := eBools fv d.fin) (by simp)
  obtain ⟨P, cp, h3, _⟩ := h.own.form (e := eInts pv G.out) (by simp)
  simp only [eRows, eBools, eInts, List.length_map] at h1 h2 h3
  exact ⟨A, c, F, cf, P, cp, by rw [h1, h.next, List.length_map], h2, h3⟩
theorem GateV.out {P : Option Addr} {n cp : Nat} (h : GateV w0 w g d G nv fv (.slice P n cp) rs es fs) (hs : ∀ x ∈ G.out, Small x) : n = G.out.length ∧ G.out.length ≤ cp ∧ IntsAt w w.heap.size P G.out := by
  obtain ⟨A, cap, hv, h1, _, h3⟩ := own_ints_at h.own (v := .slice P n cp) (l := G.out) (by simp) hs
  obtain ⟨rfl, rfl, rfl⟩ : P = A ∧ n = G.out.length ∧ cp = cap := by simpa using hv
  exact ⟨rfl, h1, h3⟩
/-- The append has been done, and nothing is made of it. -/
theorem GateV.back (h : GateV w0 w g d G nv fv pv rs es fs) (h2 : Own w0 w' (eInts pv G.out :: eGate g [.int .i64 d.L, .int .i64 d.s, nv, fv, pv, .bool G.shut] :: es) (eRows nv (rs.map (·.1)) :: eBools fv d.fin :: (eEach rs ++ fs))) : GateV w0 w' g d G nv fv pv rs es fs := ⟨h.next, h.small, h.sL, h.ss, h.nil0, h2.two⟩
/-- Nothing passes any more. -/
theorem GateV.close (h : GateV w0 w g d G nv fv pv rs es fs) : GateV w0 (w.setCell ⟨g, 5, none⟩ (.bool true)) g d ⟨G.s, G.out, true⟩ nv fv pv rs es fs := ⟨h.next, h.small, h.sL, h.ss, h.nil0, h.own.gset 5 (.bool true)⟩
/-- One letter more has passed. -/
theorem GateV.more {G2 : Gt} {pv' : Value} (h : GateV w0 w g d G nv fv pv rs es fs) (hsh : G2.shut = G.shut) (hne : G2.out ≠ []) (h2 : Own w0 w' (eInts pv' G2.out :: eGate g [.int .i64 d.L, .int .i64 d.s, nv, fv, pv, .bool G.shut] :: es) (eRows nv (rs.map (·.1)) :: eBools fv d.fin :: (eEach rs ++ fs))) :
    GateV w0 (w'.setCell ⟨g, 4, none⟩ pv') g d G2 nv fv pv' rs es fs := ⟨h.next, h.small, h.sL, h.ss, fun e => absurd e hne, by rw [hsh]; exact h2.two.gset 4 pv'⟩
theorem GateV.join {es1 fs1 : List Ent} (h : GateV w0 w g d G nv fv pv rs es fs) (h1 : Own w w' es1 fs1) : GateV w0 w' g d G nv fv pv rs (es1 ++ es) (fs1 ++ fs) := by
  refine ⟨h.next, h.small, h.sL, h.ss, h.nil0, ((h.own.join h1).weak fun e he => ?_).perm ?_⟩
  · simp only [List.mem_cons, List.mem_append] at he ⊢
    rcases he with rfl | rfl | he | he | he <;> simp [*]
  · refine List.perm_append_comm.trans ?_
    exact (List.perm_append_comm.cons _).cons _
end
/-- The gate of an automaton that a call has made. -/
theorem gate_new {w0 w1 : World} {d : Aut} {L s : Int} {nv fv : Value} (h : DfaNew w0 w1 (.agg #[.int .i64 L, .int .i64 s, nv, fv]) d) :
    GateW w0 (w1.alloc (.cells #[.int .i64 L, .int .i64 s, nv, fv, .slice none 0 0, .bool false] 72)) w1.heap.size d (gate0 d) [] [] := by
  obtain ⟨nv', fv', rs, e, h1, h2, h3, h4, h5⟩ := h
  obtain ⟨rfl, rfl, rfl, rfl⟩ : L = d.L ∧ s = d.s ∧ nv = nv' ∧ fv = fv' := by simpa using e
  refine ⟨nv, fv, .slice none 0 0, rs, h1, h3, h4, h5, fun _ => rfl, ?_⟩
  have h6 := (((Own.allDone h2).nil 3 1).gate (.int .i64 d.L) (.int .i64 d.s) nv fv (.slice none 0 0) (.bool false))
  exact h6
end Go.Proofs.YtciopfiddfmckaaDoor.Ga
