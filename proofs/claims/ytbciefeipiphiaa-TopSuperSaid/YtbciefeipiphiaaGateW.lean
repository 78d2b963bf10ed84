/- A gate in memory; an append behind which the elder list is owned as well. The walks of package gate. -/
import Derived.Test.YtbciefeipiphiaaTopM
import Derived.Test.YtbciefeipiphiaaDfaP
import Derived.Test.YtbciefeipiphiaaFirst

namespace Go.Proofs.Ytbciefeipiphiaa.Wd
open Go.RowKit Go.IntWalk

/-- What was appended to is still there. -/
theorem append_keeps {P : Program} (w : World) (base : Nat) (t ty e : TypeId) (i : TypeInfo) (z : Value) (ht : P.underlying t = some (.slice e)) (hi : P.info? e = some i) (hz : i.zero = some z) (v : Value) (n : Nat) (xs : List Value) (hown : w.ownsRow base e i.size v n xs)
    (a : Addr) (m c : Nat) (news : List Value) (hl : news.length = m * i.size) (hnews : ∀ j u, news[j]? = some u → w.cell? (a.add j) = some u) (h1 : ∀ u ∈ news, u.oneCell' = true) (h63 : n + m ≤ maxLen) (hbytes : (n + m) * i.bytes ≤ 140737488355328)
    {v' : Value} {w' : World} (hr : (Builtin.append_ #[t, t] ty #[v, .slice (some a) m c]).run P w = .ok v' w') : w'.ownsRow base e i.size v n xs := by
  have hsm : n + m ≤ 9223372036854775807 := by simp only [maxLen] at h63; omega
  rcases hown.2 with ⟨rfl, rfl⟩ | ⟨g, cap, cur, rfl, hbg, hg, hnc, hcm, hcs, htake⟩
  · have hx : xs = [] := List.eq_nil_of_length_eq_zero (by simpa using hown.1)
    subst hx
    exact World.ownsRow_nil _ _ _ _
  · by_cases hroom : n + m ≤ cap
    · have hfit : n * i.size + news.length ≤ cur.size := by rw [hl, hcs, ← Nat.add_mul]; exact Nat.mul_le_mul_right _ hroom
      rw [run_append_room (P := P) w t ty e i ht hi g n cap cur hg a m c news hl hnews h1 hroom hfit] at hr
      have hw := (Result.ok.inj hr).2
      subst hw
      refine ⟨hown.1, .inr ⟨g, cap, _, rfl, hbg, setRow_heap w g cur _ e _ hg, hnc, hcm, ?_, ?_⟩⟩
      · simp only [List.size_toArray, List.length_append, List.length_take, List.length_drop, Array.length_toList]
        omega
      · rw [List.append_assoc, htake]
        have hx : n * i.size = xs.length := hown.1.symm
        rw [hx]
        exact List.take_left
    · have holds : ∀ j u, xs[j]? = some u → w.cell? ((⟨g, 0, none⟩ : Addr).add j) = some u := hown.cells (g := g) rfl
      rw [run_append_grow (P := P) w t ty e i z ht hi hz ⟨g, 0, none⟩ n cap xs hown.1 holds a m c news hl hnews (by omega) (by omega) (growslice_fits (by omega) hbytes)] at hr
      have hw := (Result.ok.inj hr).2
      subst hw
      exact owns_on hown ((Below.refl _ _).drew.alloc (Nat.le_refl _) _)
set_option maxRecDepth 100000 in
/-- 'append(l, z)' of one int: behind it what was appended to is owned as well (but not both at once). -/
theorem own_int_both {w0 w : World} {ops : Array Oper} {rest : List Oper} {o : Oper} {a : Act} {Q : Exit → Act → World → Prop} (hgd : o.guard = none) (s x : Operand)
    (ho : o.op = .call { callee := .builtin .append, args := #[s, x], argTypes := #[26, 26] })
    {v : Value} {l : List Int} {es fs : List Ent} (hs : a.eval s = v) (h : Own w0 w (eInts v l :: es) fs) {y : Int} {t' : TypeId} (hx : a.eval x = .slice (some ⟨w.heap.size, 0, none⟩) 1 1) (hb : l.length < 17592186044416)
    (hK : ∀ g cap w', Own w0 w' (eInts (.slice (some ⟨g, 0, none⟩) (l.length + 1) cap) (l ++ [y]) :: es) fs → Own w0 w' (eInts v l :: es) fs → wpList Try.prog ops Q rest (a.put o.dst (.slice (some ⟨g, 0, none⟩) (l.length + 1) cap)) w') : wpList Try.prog ops Q (o :: rest) a (w.alloc (.cells #[.int .i64 y] t')) := by
  refine wpList_plain hgd fun K hK' => ?_
  obtain ⟨i0, hi, hz0, hz1, hz2⟩ := info_parts infoI
  have h2 := h.alloc (.cells #[.int .i64 y] t')
  have hh : (w.alloc (.cells #[.int .i64 y] t')).ownsRow w0.heap.size 3 1 v l.length (l.map i64) := h2.each _ List.mem_cons_self
  have hn : ∀ j u, [Value.int .i64 y][j]? = some u → (w.alloc (.cells #[.int .i64 y] t')).cell? ((⟨w.heap.size, 0, none⟩ : Addr).add j) = some u := World.news_of_block (heap_alloc_new w _)
  have hone : ∀ u ∈ [Value.int .i64 y], u.oneCell' = true := fun u hu => by simp at hu; subst hu; rfl
  have hA := wp_own_append (K := fun act w' => ∃ g cap, act = a.put o.dst (.slice (some ⟨g, 0, none⟩) (l.length + 1) cap) ∧ Own w0 w' (eInts (.slice (some ⟨g, 0, none⟩) (l.length + 1) cap) (l ++ [y]) :: es) fs) (Q := Q) s x _ ho Try.underlying26 infoI rfl (by decide) hs h2 [.int .i64 y] hx rfl hn hone (by omega) (by unfold maxLen; omega) (by omega)
    fun g cap w' ho => ⟨g, cap, rfl, by unfold eInts; simpa [i64] using ho⟩
  obtain ⟨v', w', hr, _⟩ := run_append_own_at (P := Try.prog) (w.alloc (.cells #[.int .i64 y] t')) w0.heap.size 26 o.type 3 i0 _ 1 8 Try.underlying26 hi hz0 hz1 hz2 rfl (by decide) v l.length (l.map i64) hh ⟨w.heap.size, 0, none⟩ 1 1 [.int .i64 y] rfl hn hone (by unfold maxLen; omega) (by omega) h2.below.size
  have hold : w'.ownsRow w0.heap.size 3 1 v l.length (l.map i64) := by
    have := append_keeps (P := Try.prog) (w.alloc (.cells #[.int .i64 y] t')) w0.heap.size 26 o.type 3 i0 _ Try.underlying26 hi hz0 v l.length (l.map i64) (by rw [hz1]; exact hh) ⟨w.heap.size, 0, none⟩ 1 1 [.int .i64 y] (by rw [hz1]; rfl) hn hone (by unfold maxLen; omega) (by rw [hz2]; omega) hr
    rwa [hz1] at this
  unfold Oper.wp execOp at hA ⊢
  simp only [ho, resolve, invoke, builtin, Sem.run_bind, Sem.run_pure, Result.andThen_ok, List.map_toArray, List.map_cons, List.map_nil, hs, hx, hr] at hA ⊢
  obtain ⟨g, cap, e, hO⟩ := hA
  show K (a.put o.dst v') w'
  rw [e]
  refine hK' _ _ (hK g cap w' hO ⟨hO.below, fun b hb => ?_, hO.done, h2.apart, h2.off⟩)
  rcases List.mem_cons.1 hb with rfl | hb
  · exact hold
  · exact hO.each b (List.mem_cons_of_mem _ hb)

/-! ### a gate's struct in a block of its own -/
def eGate (g : Nat) (l : List Value) : Ent := ⟨64, 6, .slice (some ⟨g, 0, none⟩) 1 1, 1, l⟩
theorem Own.gate {w0 w : World} {es fs : List Ent} (h : Own w0 w es fs) (a b c d e f : Value) : Own w0 (w.alloc (.cells #[a, b, c, d, e, f] 64)) (eGate w.heap.size [a, b, c, d, e, f] :: es) fs :=
  h.lit _ 6 1 #[a, b, c, d, e, f] rfl (by simp [maxLen])
theorem Own.gcell {w0 w : World} {es fs : List Ent} (h : Own w0 w es fs) {g : Nat} {l : List Value} (he : eGate g l ∈ es ++ fs) {j : Nat} {u : Value} (hj : l[j]? = some u) : w.cell? ⟨g, j, none⟩ = some u ∧ w.frozen? ⟨g, j, none⟩ = false := h.cell he hj
theorem Own.gset {w0 w : World} {es fs : List Ent} {g : Nat} {l : List Value} (h : Own w0 w (eGate g l :: es) fs) (j : Nat) (u : Value) : Own w0 (w.setCell ⟨g, j, none⟩ u) (eGate g (l.set j u) :: es) fs := h.set j u
end Go.Proofs.Ytbciefeipiphiaa.Wd
namespace Go.Proofs.Ytbciefeipiphiaa.Ga
open Go.RowKit Go.IntWalk Go.Proofs.Ytbciefeipiphiaa.Wd Go.Proofs.Ytbciefeipiphiaa.Wo Go.Proofs.Ytbciefeipiphiaa.Df Go.Proofs.Ytbciefeipiphiaa.Rc Go.Proofs.Ytbciefeipiphiaa.Sm Go.Proofs.Ytbciefeipiphiaa.Sa
/-- A gate that a call has made and still changes: its struct at block g, what has passed at pv; es and fs are owned beside it. -/
structure GateV (w0 w : World) (g : Nat) (d : Aut) (G : Gt) (nv fv pv : Value) (rs : List (Value × List Int)) (es fs : List Ent) : Prop where
  next : d.next = rs.map (·.2)
  small : ∀ p ∈ rs, ∀ x ∈ p.2, Small x
  sL : Small d.L
  ss : Small d.s
  nil0 : G.out = [] → pv = .slice none 0 0
  own : Own w0 w (eGate g [.int .i64 d.L, .int .i64 d.s, nv, fv, pv, .bool G.shut] :: eInts pv G.out :: es) (eRows nv (rs.map (·.1)) :: eBools fv d.fin :: (eEach rs ++ fs))
def GateW (w0 w : World) (g : Nat) (d : Aut) (G : Gt) (es fs : List Ent) : Prop := ∃ nv fv pv rs, GateV w0 w g d G nv fv pv rs es fs
section
variable {w0 w w' : World} {g : Nat} {d : Aut} {G : Gt} {nv fv pv : Value} {rs : List (Value × List Int)} {es fs : List Ent}
theorem GateV.on (h : GateV w0 w g d G nv fv pv rs es fs) (hb : Below w.heap.size w w') : GateV w0 w' g d G nv fv pv rs es fs := ⟨h.next, h.small, h.sL, h.ss, h.nil0, h.own.on hb⟩
theorem GateW.on (h : GateW w0 w g d G es fs) (hb : Below w.heap.size w w') : GateW w0 w' g d G es fs := by
  obtain ⟨nv, fv, pv, rs, h⟩ := h
  exact ⟨nv, fv, pv, rs, h.on hb⟩
theorem GateW.base {w1 : World} (h : GateW w0 w g d G es fs) (hb : Below w1.heap.size w1 w0) : GateW w1 w g d G es fs := by
  obtain ⟨nv, fv, pv, rs, h⟩ := h
  exact ⟨nv, fv, pv, rs, h.next, h.small, h.sL, h.ss, h.nil0, h.own.base hb⟩
theorem GateW.below (h : GateW w0 w g d G es fs) : Below w0.heap.size w0 w := by
  obtain ⟨nv, fv, pv, rs, h⟩ := h
  exact h.own.below
theorem GateV.cell (h : GateV w0 w g d G nv fv pv rs es fs) {j : Nat} {u : Value} (hj : [Value.int .i64 d.L, .int .i64 d.s, nv, fv, pv, .bool G.shut][j]? = some u) : w.cell? ⟨g, j, none⟩ = some u ∧ w.frozen? ⟨g, j, none⟩ = false := h.own.gcell (by simp) hj
theorem GateV.dfa (h : GateV w0 w g d G nv fv pv rs es fs) : DfaAt w w.heap.size (.agg #[.int .i64 d.L, .int .i64 d.s, nv, fv]) d := by
  have h7 := own_dfa (nv := nv) (fv := fv) (rs := rs) (bs := d.fin) (L := d.L) (s := d.s) h.own (by simp) (fun e he => by simp [he]) (by simp) h.small h.sL h.ss
  rw [← h.next] at h7
  exact h7
theorem GateV.forms (h : GateV w0 w g d G nv fv pv rs es fs) : ∃ A c F cf P cp, nv = .slice A d.next.length c ∧ fv = .slice F d.fin.length cf ∧ pv = .slice P G.out.length cp := by
  obtain ⟨A, c, h1, _⟩ := h.own.form (e := eRows nv (rs.map (·.1))) (by simp)
  obtain ⟨F, cf, h2, _⟩ := h.own.form (e := eBools fv d.fin) (by simp)
  obtain ⟨P, cp, h3, _⟩ := h.own.form (e := eInts pv G.out) (by simp)
  simp only [eRows, eBools, eInts, List.length_map] at h1 h2 h3
  exact ⟨A, c, F, cf, P, cp, by rw [h1, h.next, List.length_map], h2, h3⟩
theorem GateV.out {P : Option Addr} {n cp : Nat} (h : GateV w0 w g d G nv fv (.slice P n cp) rs es fs) (hs : ∀ x ∈ G.out, Small x) : n = G.out.length ∧ G.out.length ≤ cp ∧ IntsAt w w.heap.size P G.out := by
  obtain ⟨A, cap, hv, h1, _, h3⟩ := own_ints_at h.own (v := .slice P n cp) (l := G.out) (by simp) hs
  obtain ⟨rfl, rfl, rfl⟩ : P = A ∧ n = G.out.length ∧ cp = cap := by simpa using hv
  exact ⟨rfl, h1, h3⟩
/-- The append has been done, and nothing is made of it. -/
theorem GateV.back (h : GateV w0 w g d G nv fv pv rs es fs) (h2 : Own w0 w' (eInts pv G.out :: eGate g [.int .i64 d.L, .int .i64 d.s, nv, fv, pv, .bool G.shut] :: es) (eRows nv (rs.map (·.1)) :: eBools fv d.fin :: (eEach rs ++ fs))) : GateV w0 w' g d G nv fv pv rs es fs := ⟨h.next, h.small, h.sL, h.ss, h.nil0, h2.two⟩
/-- Nothing passes any more. -/
theorem GateV.close (h : GateV w0 w g d G nv fv pv rs es fs) : GateV w0 (w.setCell ⟨g, 5, none⟩ (.bool true)) g d ⟨G.s, G.out, true⟩ nv fv pv rs es fs := ⟨h.next, h.small, h.sL, h.ss, h.nil0, h.own.gset 5 (.bool true)⟩
/-- One letter more has passed. -/
theorem GateV.more {G2 : Gt} {pv' : Value} (h : GateV w0 w g d G nv fv pv rs es fs) (hsh : G2.shut = G.shut) (hne : G2.out ≠ []) (h2 : Own w0 w' (eInts pv' G2.out :: eGate g [.int .i64 d.L, .int .i64 d.s, nv, fv, pv, .bool G.shut] :: es) (eRows nv (rs.map (·.1)) :: eBools fv d.fin :: (eEach rs ++ fs))) :
    GateV w0 (w'.setCell ⟨g, 4, none⟩ pv') g d G2 nv fv pv' rs es fs := ⟨h.next, h.small, h.sL, h.ss, fun e => absurd e hne, by rw [hsh]; exact h2.two.gset 4 pv'⟩
theorem GateV.join {es1 fs1 : List Ent} (h : GateV w0 w g d G nv fv pv rs es fs) (h1 : Own w w' es1 fs1) : GateV w0 w' g d G nv fv pv rs (es1 ++ es) (fs1 ++ fs) := by
  refine ⟨h.next, h.small, h.sL, h.ss, h.nil0, ((h.own.join h1).weak fun e he => ?_).perm ?_⟩
  · simp only [List.mem_cons, List.mem_append] at he ⊢
    rcases he with rfl | rfl | he | he | he <;> simp [*]
  · refine List.perm_append_comm.trans ?_
    exact (List.perm_append_comm.cons _).cons _
end
/-- The gate of an automaton that a call has made. -/
theorem gate_new {w0 w1 : World} {d : Aut} {L s : Int} {nv fv : Value} (h : DfaNew w0 w1 (.agg #[.int .i64 L, .int .i64 s, nv, fv]) d) :
    GateW w0 (w1.alloc (.cells #[.int .i64 L, .int .i64 s, nv, fv, .slice none 0 0, .bool false] 64)) w1.heap.size d (gate0 d) [] [] := by
  obtain ⟨nv', fv', rs, e, h1, h2, h3, h4, h5⟩ := h
  obtain ⟨rfl, rfl, rfl, rfl⟩ : L = d.L ∧ s = d.s ∧ nv = nv' ∧ fv = fv' := by simpa using e
  refine ⟨nv, fv, .slice none 0 0, rs, h1, h3, h4, h5, fun _ => rfl, ?_⟩
  have h6 := (((Own.allDone h2).nil 3 1).gate (.int .i64 d.L) (.int .i64 d.s) nv fv (.slice none 0 0) (.bool false))
  exact h6
end Go.Proofs.Ytbciefeipiphiaa.Ga

namespace Go.Proofs.Ytbciefeipiphiaa.Ga
open Go.RowKit Go.IntWalk Go.Proofs.Ytbciefeipiphiaa.Wd Go.Proofs.Ytbciefeipiphiaa.Wo Go.Proofs.Ytbciefeipiphiaa.Df Go.Proofs.Ytbciefeipiphiaa.Rc Go.Proofs.Ytbciefeipiphiaa.Sm Go.Proofs.Ytbciefeipiphiaa.Sa

theorem one_at (w : World) (z : Int) (hs : Small z) : IntsAt (w.alloc (.cells #[.int .i64 z] 3)) (w.alloc (.cells #[.int .i64 z] 3)).heap.size (some ⟨w.heap.size, 0, none⟩) [z] := by
  have h := (own_start w).lit 3 1 1 #[.int .i64 z] rfl (by simp [maxLen])
  exact ⟨h.cells (t := 3) (sz := 1) (n := 1) (cap := 1) (A := some ⟨w.heap.size, 0, none⟩) (xs := [i64 z]) (by simp [i64]), fun x hx => by simp at hx; subst hx; exact hs⟩
theorem chk_letter {d : Aut} (hd : Df.Good d) (a : Int) : chk d.L [a] = if isL d a = true then 0 else 1 := by
  have h1 := hd.l1
  have h2 := hd.l6
  unfold chk isL
  rw [if_neg (by omega), if_neg (by simp)]
  simp
theorem letter_small {d : Aut} (hd : Df.Good d) {l : List Int} (hw : Word d.L l) : ∀ x ∈ l, Small x := fun x hx => by
  have := hw x hx
  have := hd.l6
  exact ⟨by omega, by omega⟩
/-- What is told of one letter more. -/
theorem acc_more {d : Aut} (hd : Df.Good d) {G : Gt} (hk : Gok d G) {a : Int} (ha : isL d a = true) : accErr d (G.out ++ [a]) = (if 80 ≤ G.out.length then 4 else 0) ∧ (G.out.length < 80 → accOut d (G.out ++ [a]) = finA d (Df.step d G.s a.toNat)) := by
  obtain ⟨h0, h1⟩ := isL_iff.1 ha
  have hz : dchk d = 0 := dchk_iff.2 hd
  have hL1 := hd.l1
  have hL6 := hd.l6
  have hw := word_one hk.word h0 h1
  by_cases h : 80 ≤ G.out.length
  · rw [if_pos h]
    refine ⟨?_, fun h2 => by omega⟩
    unfold accErr
    rw [if_neg (by omega), chk_four (by omega) (by rw [List.length_append]; simp; omega)]
  · rw [if_neg h]
    have he : accErr d (G.out ++ [a]) = 0 := by
      unfold accErr
      rw [if_neg (by omega)]
      exact chk_iff.2 ⟨by omega, by rw [List.length_append]; simp; omega, hw⟩
    refine ⟨he, fun _ => ?_⟩
    unfold accOut
    rw [if_pos he]
    unfold accA
    rw [step_last, ← hk.st]
set_option maxRecDepth 100000 in
set_option maxHeartbeats 2000000 in
theorem offer_any (w0 w : World) (g : Nat) (d : Aut) (G : Gt) (es fs : List Ent) (a : Int) (hG : GateW w0 w g d G es fs) (hd : Df.Good d) (hk : Gok d G) (ha : Small a) :
    Calls Try.prog 17 #[.pointer (some ⟨g, 0, none⟩), .int .i64 a] w fun e w' => Hid (e = .returned (.tuple #[.bool (offer d G a).2.1, errV (offer d G a).1])) ∧ Hid (GateW w0 w' g d (offer d G a).2.2 es fs) := by
  obtain ⟨nv, fv, pv, rs, hV⟩ := hG
  obtain ⟨A, c, F, cf, P, cp, rfl, rfl, rfl⟩ := hV.forms
  obtain ⟨c0, _⟩ := hV.cell (j := 0) rfl
  obtain ⟨c5, f5⟩ := hV.cell (j := 5) rfl
  have HC := Lib.hid (check_any d.L (some ⟨w.heap.size, 0, none⟩) 1 [a] (w.alloc (.cells #[.int .i64 a] 3)) hV.sL (one_at w a ha) (by simp))
  rw [chk_letter hd] at HC
  rcases hl : isL d a with _ | _
  · have HO : Hid (offer d G a = (1, false, G)) := offer_bad hl
    rw [hl] at HC
    have HW : Hid (GateW w0 (w.alloc (.cells #[.int .i64 a] 3)) g d G es fs) := ⟨_, _, _, rs, hV.on (below_alloc _ _)⟩
    clear hl hV
    generalize d.L = L at *
    generalize G.shut = sh at *
    go_enter Try.func17, Try.ntmps17
    go_wp2_with fail
    refine HC.out.mono ?_
    rintro e w2 ⟨he, rfl⟩
    obtain rfl : e = .returned (errI 1) := he.out
    go_wp2
    go_ret2
    exact ⟨by rw [HO.out]; rfl, by rw [HO.out]; exact HW.out⟩
  · rw [hl] at HC
    rcases hsh : G.shut with _ | _
    · obtain ⟨c4, f4⟩ := hV.cell (j := 4) rfl
      obtain ⟨_, hcp, _⟩ := hV.out (letter_small hd hk.word)
      obtain ⟨hae, hao⟩ := acc_more hd hk hl
      have hn80 : G.out.length ≤ 80 := hk.len
      have hN : (G.out ++ [a]).length = G.out.length + 1 := by simp
      have hw2 := word_one hk.word (isL_iff.1 hl).1 (isL_iff.1 hl).2
      have hsm := letter_small hd hw2
      have HACC : Hid (∀ (v : Value) (Z : Option Addr) (cz : Nat) (W : World), DfaAt W W.heap.size v d → IntsAt W W.heap.size Z (G.out ++ [a]) → Calls Try.prog 11 #[v, .slice Z (G.out.length + 1) cz] W fun e w' => Hid (e = .returned (.tuple #[.bool (accOut d (G.out ++ [a])), errV (accErr d (G.out ++ [a]))])) ∧ Below W.heap.size W w') := fun v Z cz W h1 h2 => by
        have := acc_any v d Z cz (G.out ++ [a]) W h1 h2 (by rw [hN]; omega)
        rwa [hN] at this
      have HV := Lib.hid (hV.on (below_alloc w (.cells #[.int .i64 a] 3)))
      have HOwn := Lib.hid HV.out.own.two
      have HSM := Lib.hid hsm
      obtain ⟨sh, hsh2⟩ : ∃ sh, G.shut = sh := ⟨_, rfl⟩
      have HS : Hid (G.shut = false) := hsh
      rw [hsh] at c5
      have HP : Hid (∀ cap w2 w3, Own w0 w2 (eInts (.slice (some ⟨cap, 0, none⟩) (G.out.length + 1) w3) (G.out ++ [a]) :: eGate g [.int .i64 d.L, .int .i64 d.s, .slice A d.next.length c, .slice F d.fin.length cf, .slice P G.out.length cp, .bool G.shut] :: es) (eRows (.slice A d.next.length c) (rs.map (·.1)) :: eBools (.slice F d.fin.length cf) d.fin :: (eEach rs ++ fs)) → IntsAt w2 w2.heap.size (some ⟨cap, 0, none⟩) (G.out ++ [a])) := fun cap w2 w3 ho => by
        obtain ⟨A', c', e, _, _, h⟩ := own_ints_at ho List.mem_cons_self hsm
        obtain ⟨rfl, _⟩ : some ⟨cap, 0, none⟩ = A' ∧ w3 = c' := by simpa using e
        exact h
      have HOff : Hid (if 80 ≤ G.out.length then offer d G a = (4, false, G) else if finA d (Df.step d G.s a.toNat) = true then offer d G a = (0, true, ⟨Df.step d G.s a.toNat, G.out ++ [a], false⟩) else offer d G a = (0, false, ⟨G.s, G.out, true⟩)) := by
        unfold Hid
        split
        · exact offer_full hl hsh (by assumption)
        · split
          · exact offer_pass hl hsh (by omega) (by assumption)
          · exact offer_stop hl hsh (by omega) (by simpa using (by assumption : ¬ finA d (Df.step d G.s a.toNat) = true))
      have HAE := Lib.hid (And.intro hae hao)
      clear hl hV hsm hw2 hN hsh hsh2 hae hao hk
      obtain ⟨n, hn⟩ : ∃ n, G.out.length = n := ⟨_, rfl⟩
      obtain ⟨N, hNn⟩ : ∃ N, d.next.length = N := ⟨_, rfl⟩
      obtain ⟨M, hM⟩ : ∃ M, d.fin.length = M := ⟨_, rfl⟩
      have HLn := Lib.hid (And.intro hn (And.intro hNn hM))
      rw [hn] at c4 hn80 hcp HACC HP HOff HAE HOwn HV
      rw [hNn, hM] at HP HOwn HV
      clear hn hNn hM
      obtain ⟨e5, _⟩ := HV.out.cell (j := 5) rfl
      rw [HS.out] at e5
      clear c5 f5 f4 c4
      obtain ⟨e4, _⟩ := HV.out.cell (j := 4) rfl
      go_enter Try.func17, Try.ntmps17
      go_wp2_with fail
      refine HC.out.mono ?_
      rintro e w2 ⟨he, rfl⟩
      obtain rfl : e = .returned .nilIface := he.out
      clear HC he
      generalize hw1 : w.alloc (.cells #[.int .i64 a] 3) = w1 at *
      go_wp2_with (at_builtin; refine own_int_both rfl _ _ rfl rfl HOwn.out rfl (by rw [HLn.out.1]; omega) ?_)
      intro g2 cap w3 hA hB
      have HV3 := Lib.hid (HV.out.back hB)
      rw [HLn.out.1] at hA ⊢
      have HZ := Lib.hid (HP.out _ _ _ hA)
      have HD := Lib.hid HV3.out.dfa
      obtain ⟨k0, _⟩ := HV3.out.cell (j := 0) rfl
      obtain ⟨k1, _⟩ := HV3.out.cell (j := 1) rfl
      obtain ⟨k2, _⟩ := HV3.out.cell (j := 2) rfl
      obtain ⟨k3, _⟩ := HV3.out.cell (j := 3) rfl
      have HA := Lib.hid hA
      clear hA hB e4 e5 HP hw1 hn80 hcp HOwn HV
      go_wp2_with fail
      refine (HACC.out _ _ _ _ HD.out HZ.out).mono ?_
      rintro e w4 ⟨he, hb⟩
      rw [HAE.out.1] at he
      have HV4 := Lib.hid (HV3.out.on hb)
      have HA4 := Lib.hid (HA.out.on hb)
      clear k0 k1 k2 k3 HZ HD HACC HA HV3 hb
      obtain ⟨k4, f4⟩ := HV4.out.cell (j := 4) rfl
      obtain ⟨k5, f5⟩ := HV4.out.cell (j := 5) rfl
      by_cases h80 : 80 ≤ n
      · have HO : Hid (offer d G a = (4, false, G)) := by have := HOff.out; rwa [if_pos h80] at this
        rw [if_pos h80] at he
        have HE : Hid (GateW w0 w4 g d G es fs) := ⟨_, _, _, rs, HV4.out⟩
        obtain ⟨b, hb⟩ : ∃ b, accOut d (G.out ++ [a]) = b := ⟨_, rfl⟩
        rw [hb] at he
        obtain rfl : e = .returned (.tuple #[.bool b, errI 4]) := he.out
        clear he hb HOff HAE k4 k5 f4 f5
        go_wp2
        go_ret2
        exact ⟨by rw [HO.out]; rfl, by rw [HO.out]; exact HE.out⟩
      · rw [if_neg h80, HAE.out.2 (by omega)] at he
        rcases hf : finA d (Df.step d G.s a.toNat) with _ | _
        · have HO : Hid (offer d G a = (0, false, ⟨G.s, G.out, true⟩)) := by have := HOff.out; rwa [if_neg h80, if_neg (by rw [hf]; decide)] at this
          rw [hf] at he
          obtain rfl : e = .returned (.tuple #[.bool false, .nilIface]) := he.out
          have HE : Hid (GateW w0 (w4.setCell ⟨g, 5, none⟩ (.bool true)) g d ⟨G.s, G.out, true⟩ es fs) := ⟨_, _, _, rs, HV4.out.close⟩
          clear he hf HOff HAE k4 f4
          go_wp2
          go_ret2
          exact ⟨by rw [HO.out]; rfl, by rw [HO.out]; exact HE.out⟩
        · have HO : Hid (offer d G a = (0, true, ⟨Df.step d G.s a.toNat, G.out ++ [a], false⟩)) := by have := HOff.out; rwa [if_neg h80, if_pos hf] at this
          rw [hf] at he
          obtain rfl : e = .returned (.tuple #[.bool true, .nilIface]) := he.out
          have HE : Hid (GateW w0 (w4.setCell ⟨g, 4, none⟩ (.slice (some ⟨g2, 0, none⟩) (n + 1) cap)) g d ⟨Df.step d G.s a.toNat, G.out ++ [a], false⟩ es fs) := ⟨_, _, _, rs, HV4.out.more (G2 := ⟨Df.step d G.s a.toNat, G.out ++ [a], false⟩) HS.out.symm (by simp) HA4.out⟩
          clear he hf HOff HAE k5 f5
          go_wp2
          go_ret2
          exact ⟨by rw [HO.out]; rfl, by rw [HO.out]; exact HE.out⟩
    · have HO : Hid (offer d G a = (0, false, G)) := offer_shut hl hsh
      have HW : Hid (GateW w0 (w.alloc (.cells #[.int .i64 a] 3)) g d G es fs) := ⟨_, _, _, rs, hV.on (below_alloc _ _)⟩
      obtain ⟨e5, _⟩ := (hV.on (below_alloc w (.cells #[.int .i64 a] 3))).cell (j := 5) rfl
      clear hl hV
      rw [hsh] at e5
      clear hsh c5 f5
      generalize d.L = L at *
      go_enter Try.func17, Try.ntmps17
      go_wp2_with fail
      refine HC.out.mono ?_
      rintro e w2 ⟨he, rfl⟩
      obtain rfl : e = .returned .nilIface := he.out
      go_wp2
      go_ret2
      exact ⟨by rw [HO.out]; rfl, by rw [HO.out]; exact HW.out⟩
/-- A gate that is shut: nothing is changed. -/
theorem offer_still (w0 w : World) (g : Nat) (d : Aut) (G : Gt) (es fs : List Ent) (a : Int) (hG : GateW w0 w g d G es fs) (hd : Df.Good d) (hs : G.shut = true) (ha : Small a) :
    Calls Try.prog 17 #[.pointer (some ⟨g, 0, none⟩), .int .i64 a] w fun e w' => Hid (e = .returned (.tuple #[.bool false, errV (if isL d a = true then 0 else 1)])) ∧ Below w.heap.size w w' := by
  obtain ⟨nv, fv, pv, rs, hV⟩ := hG
  obtain ⟨A, c, F, cf, P, cp, rfl, rfl, rfl⟩ := hV.forms
  obtain ⟨c0, _⟩ := hV.cell (j := 0) rfl
  obtain ⟨e5, _⟩ := (hV.on (below_alloc w (.cells #[.int .i64 a] 3))).cell (j := 5) rfl
  have HC := Lib.hid (check_any d.L (some ⟨w.heap.size, 0, none⟩) 1 [a] (w.alloc (.cells #[.int .i64 a] 3)) hV.sL (one_at w a ha) (by simp))
  rw [chk_letter hd] at HC
  rw [hs] at e5
  have HB := Lib.hid (below_alloc w (.cells #[.int .i64 a] 3))
  clear hV hs
  generalize d.L = L at *
  rcases hl : isL d a with _ | _
  · rw [hl] at HC
    clear hl
    go_enter Try.func17, Try.ntmps17
    go_wp2_with fail
    refine HC.out.mono ?_
    rintro e w2 ⟨he, rfl⟩
    obtain rfl : e = .returned (errI 1) := he.out
    go_wp2
    go_ret2
    exact ⟨rfl, HB.out⟩
  · rw [hl] at HC
    clear hl
    go_enter Try.func17, Try.ntmps17
    go_wp2_with fail
    refine HC.out.mono ?_
    rintro e w2 ⟨he, rfl⟩
    obtain rfl : e = .returned (.nilIface) := he.out
    go_wp2
    go_ret2
    exact ⟨rfl, HB.out⟩
/-! ### Out, Shut -/
end Go.Proofs.Ytbciefeipiphiaa.Ga
