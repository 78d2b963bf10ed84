/- A gate in memory; an append behind which the elder list is owned as well. The walks of package gate. -/
import Derived.Test.YtendgfbnkpbndaaDoorTopM
import Derived.Test.YtendgfbnkpbndaaDoorDfaP
import Derived.Test.YtendgfbnkpbndaaDoorFirst

namespace Go.Proofs.YtendgfbnkpbndaaDoor.Wd
open Go.RowKit Go.IntWalk

/-- What was appended to is still there. -/
theorem append_keeps {P : Program} (w : World) (base : Nat) (t ty e : TypeId) (i : TypeInfo) (z : Value) (ht : P.underlying t = some (.slice e)) (hi : P.info? e = some i) (hz : i.zero = some z) (v : Value) (n : Nat) (xs : List Value) (hown : w.ownsRow base e i.size v n xs)
    (a : Addr) (m c : Nat) (news : List Value) (hl : news.length = m * i.size) (hnews : ∀ j u, news[j]? = some u → w.cell? (a.add j) = some u) (h1 : ∀ u ∈ news, u.oneCell' = true) (h63 : n + m ≤ maxLen) (hbytes : (n + m) * i.bytes ≤ 140737488355328)
    {v' : Value} {w' : World} (hr : (Builtin.append_ #[t, t] ty #[v, .slice (some a) m c]).run P w = .ok v' w') : w'.ownsRow base e i.size v n xs := by
  have hsm : n + m ≤ 9223372036854775807 := by simp only [maxLen] at h63; omega
  rcases hown.2 with ⟨rfl, rfl⟩ | ⟨g, cap, cur, rfl, hbg, hg, hnc, hcm, hcs, htake⟩
  · have hx : xs = [] := List.eq_nil_of_length_eq_zero (by simpa using hown.1)
    subst hx
    exact World.ownsRow_nil _ _ _ _
  · by_cases hroom : n + m ≤ cap
    · have hfit : n * i.size + news.length ≤ cur.size := by rw [hl, hcs, ← Nat.add_mul]; exact Nat.mul_le_mul_right _ hroom
      rw [run_append_room (P := P) w t ty e i ht hi g n cap cur hg a m c news hl hnews h1 hroom hfit] at hr
      have hw := (Result.ok.inj hr).2
      subst hw
      refine ⟨hown.1, .inr ⟨g, cap, _, rfl, hbg, setRow_heap w g cur _ e _ hg, hnc, hcm, ?_, ?_⟩⟩
      · simp only [List.size_toArray, List.length_append, List.length_take, List.length_drop, Array.length_toList]
        omega
      · rw [List.append_assoc, htake]
        have hx : n * i.size = xs.length := hown.1.symm
        rw [hx]
        exact List.take_left
    · have holds : ∀ j u, xs[j]? = some u → w.cell? ((⟨g, 0, none⟩ : Addr).add j) = some u := hown.cells (g := g) rfl
      rw [run_append_grow (P := P) w t ty e i z ht hi hz ⟨g, 0, none⟩ n cap xs hown.1 holds a m c news hl hnews (by omega) (by omega) (growslice_fits (by omega) hbytes)] at hr
      have hw := (Result.ok.inj hr).2
      subst hw
      exact owns_on hown ((Below.refl _ _).drew.alloc (Nat.le_refl _) _)
set_option maxRecDepth 100000 in
/-- 'append(l, z)' of one int: behind it what was appended to is owned as well (but not both at once). -/
theorem own_int_both {w0 w : World} {ops : Array Oper} {rest : List Oper} {o : Oper} {a : Act} {Q : Exit → Act → World → Prop} (hgd : o.guard = none) (s x : Operand)
    (ho : o.op = .call { callee := .builtin .append, args := #[s, x], argTypes := #[26, 26] })
    {v : Value} {l : List Int} {es fs : List Ent} (hs : a.eval s = v) (h : Own w0 w (eInts v l :: es) fs) {y : Int} {t' : TypeId} (hx : a.eval x = .slice (some ⟨w.heap.size, 0, none⟩) 1 1) (hb : l.length < 17592186044416)
    (hK : ∀ g cap w', Own w0 w' (eInts (.slice (some ⟨g, 0, none⟩) (l.length + 1) cap) (l ++ [y]) :: es) fs → Own w0 w' (eInts v l :: es) fs → wpList Tryd.prog ops Q rest (a.put o.dst (.slice (some ⟨g, 0, none⟩) (l.length + 1) cap)) w') : wpList Tryd.prog ops Q (o :: rest) a (w.alloc (.cells #[.int .i64 y] t')) := by
  refine wpList_plain hgd fun K hK' => ?_
  obtain ⟨i0, hi, hz0, hz1, hz2⟩ := info_parts infoI
  have h2 := h.alloc (.cells #[.int .i64 y] t')
  have hh : (w.alloc (.cells #[.int .i64 y] t')).ownsRow w0.heap.size 3 1 v l.length (l.map i64) := h2.each _ List.mem_cons_self
  have hn : ∀ j u, [Value.int .i64 y][j]? = some u → (w.alloc (.cells #[.int .i64 y] t')).cell? ((⟨w.heap.size, 0, none⟩ : Addr).add j) = some u := World.news_of_block (heap_alloc_new w _)
  have hone : ∀ u ∈ [Value.int .i64 y], u.oneCell' = true := fun u hu => by simp at hu; subst hu; rfl
  have hA := wp_own_append (K := fun act w' => ∃ g cap, act = a.put o.dst (.slice (some ⟨g, 0, none⟩) (l.length + 1) cap) ∧ Own w0 w' (eInts (.slice (some ⟨g, 0, none⟩) (l.length + 1) cap) (l ++ [y]) :: es) fs) (Q := Q) s x _ ho Tryd.underlying26 infoI rfl (by decide) hs h2 [.int .i64 y] hx rfl hn hone (by omega) (by unfold maxLen; omega) (by omega)
    fun g cap w' ho => ⟨g, cap, rfl, by unfold eInts; simpa [i64] using ho⟩
  obtain ⟨v', w', hr, _⟩ := run_append_own_at (P := Tryd.prog) (w.alloc (.cells #[.int .i64 y] t')) w0.heap.size 26 o.type 3 i0 _ 1 8 Tryd.underlying26 hi hz0 hz1 hz2 rfl (by decide) v l.length (l.map i64) hh ⟨w.heap.size, 0, none⟩ 1 1 [.int .i64 y] rfl hn hone (by unfold maxLen; omega) (by omega) h2.below.size
  have hold : w'.ownsRow w0.heap.size 3 1 v l.length (l.map i64) := by
    have := append_keeps (P := Tryd.prog) (w.alloc (.cells #[.int .i64 y] t')) w0.heap.size 26 o.type 3 i0 _ Tryd.underlying26 hi hz0 v l.length (l.map i64) (by rw [hz1]; exact hh) ⟨w.heap.size, 0, none⟩ 1 1 [.int .i64 y] (by rw [hz1]; rfl) hn hone (by unfold maxLen; omega) (by rw [hz2]; omega) hr
    rwa [hz1] at this
  unfold Oper.wp execOp at hA ⊢
  simp only [ho, resolve, invoke, builtin, Sem.run_bind, Sem.run_pure, Result.andThen_ok, List.map_toArray, List.map_cons, List.map_nil, hs, hx, hr] at hA ⊢
  obtain ⟨g, cap, e, hO⟩ := hA
  show K (a.put o.dst v') w'
  rw [e]
  refine hK' _ _ (hK g cap w' hO ⟨hO.below, fun b hb => ?_, hO.done, h2.apart, h2.off⟩)
  rcases List.mem_cons.1 hb with rfl | hb
  · exact hold
  · exact hO.each b (List.mem_cons_of_mem _ hb)

/-! ### a gate's struct in a block of its own -/
end Go.Proofs.YtendgfbnkpbndaaDoor.Wd
namespace Go.Proofs.YtendgfbnkpbndaaDoor.Ga
open Go.RowKit Go.IntWalk Go.Proofs.YtendgfbnkpbndaaDoor.Wd Go.Proofs.YtendgfbnkpbndaaDoor.Wo Go.Proofs.YtendgfbnkpbndaaDoor.Df Go.Proofs.YtendgfbnkpbndaaDoor.Rc Go.Proofs.YtendgfbnkpbndaaDoor.Sm Go.Proofs.YtendgfbnkpbndaaDoor.Sa
section
variable {w0 w w' : World} {g : Nat} {d : Aut} {G : Gt} {nv fv pv : Value} {rs : List (Value × List Int)} {es fs : List Ent}
end
end Go.Proofs.YtendgfbnkpbndaaDoor.Ga

namespace Go.Proofs.YtendgfbnkpbndaaDoor.Ga
open Go.RowKit Go.IntWalk Go.Proofs.YtendgfbnkpbndaaDoor.Wd Go.Proofs.YtendgfbnkpbndaaDoor.Wo Go.Proofs.YtendgfbnkpbndaaDoor.Df Go.Proofs.YtendgfbnkpbndaaDoor.Rc Go.Proofs.YtendgfbnkpbndaaDoor.Sm Go.Proofs.YtendgfbnkpbndaaDoor.Sa

theorem one_at (w : World) (z : Int) (hs : Small z) : IntsAt (w.alloc (.cells #[.int .i64 z] 3)) (w.alloc (.cells #[.int .i64 z] 3)).heap.size (some ⟨w.heap.size, 0, none⟩) [z] := by
  have h := (own_start w).lit 3 1 1 #[.int .i64 z] rfl (by simp [maxLen])
  exact ⟨h.cells (t := 3) (sz := 1) (n := 1) (cap := 1) (A := some ⟨w.heap.size, 0, none⟩) (xs := [i64 z]) (by simp [i64]), fun x hx => by simp at hx; subst hx; exact hs⟩
theorem chk_letter {d : Aut} (hd : Df.Good d) (a : Int) : chk d.L [a] = if isL d a = true then 0 else 1 := by
  have h1 := hd.l1
  have h2 := hd.l6
  unfold chk isL
  rw [if_neg (by omega), if_neg (by simp)]
  simp
theorem letter_small {d : Aut} (hd : Df.Good d) {l : List Int} (hw : Word d.L l) : ∀ x ∈ l, Small x := fun x hx => by
  have := hw x hx
  have := hd.l6
  exact ⟨by omega, by omega⟩
/-- What is told of one letter more. -/
theorem acc_more {d : Aut} (hd : Df.Good d) {G : Gt} (hk : Gok d G) {a : Int} (ha : isL d a = true) : accErr d (G.out ++ [a]) = (if 80 ≤ G.out.length then 4 else 0) ∧ (G.out.length < 80 → accOut d (G.out ++ [a]) = finA d (Df.step d G.s a.toNat)) := by
  obtain ⟨h0, h1⟩ := isL_iff.1 ha
  have hz : dchk d = 0 := dchk_iff.2 hd
  have hL1 := hd.l1
  have hL6 := hd.l6
  have hw := word_one hk.word h0 h1
  by_cases h : 80 ≤ G.out.length
  · rw [if_pos h]
    refine ⟨?_, fun h2 => by omega⟩
    unfold accErr
    rw [if_neg (by omega), chk_four (by omega) (by rw [List.length_append]; simp; omega)]
  · rw [if_neg h]
    have he : accErr d (G.out ++ [a]) = 0 := by
      unfold accErr
      rw [if_neg (by omega)]
      exact chk_iff.2 ⟨by omega, by rw [List.length_append]; simp; omega, hw⟩
    refine ⟨he, fun _ => ?_⟩
    unfold accOut
    rw [if_pos he]
    unfold accA
    rw [step_last, ← hk.st]
/-! ### Out, Shut -/
end Go.Proofs.YtendgfbnkpbndaaDoor.Ga
