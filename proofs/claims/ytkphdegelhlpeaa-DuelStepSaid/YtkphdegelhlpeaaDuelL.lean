/- Package duel's contracts for laws; the laws' closed fact. -/
import Derived.Test.YtkphdegelhlpeaaDuelW
import Derived.Test.YtkphdegelhlpeaaDuelO
import Derived.Test.YtkphdegelhlpeaaSame
namespace Go.Proofs.Ytkphdegelhlpeaa.Du
open Go.RowKit Go.IntWalk Go.Proofs.Ytkphdegelhlpeaa.Wd Go.Proofs.Ytkphdegelhlpeaa.Wo Go.Proofs.Ytkphdegelhlpeaa.Df Go.Proofs.Ytkphdegelhlpeaa.Rc

theorem moveA_ge {a : Ar} (g : Good a) {p : Nat} (hp : p < a.next.length) : -1 ≤ moveA a p ∧ moveA a p < a.next.length := by
  unfold moveA moveTo
  rcases e : (succs a p).find? (pickM a p) with _ | q
  · exact ⟨by show (-1 : Int) ≤ -1; omega, by show (-1 : Int) < _; omega⟩
  · have := succ_lt g hp (List.mem_of_find?_eq_some e)
    exact ⟨by show (-1 : Int) ≤ (q : Int); omega, by show (q : Int) < _; omega⟩
theorem ranks_gives {v : Value} {a : Ar} {w : World} (h : ArAt w w.heap.size v a) (gd : Good a) :
    Calls Try.prog 9 #[v] w fun e w' => ∃ g, e = .returned (.tuple #[rw_ g a.next.length, .nilIface]) ∧ Hid (IntsAt w' w'.heap.size (some ⟨g, 0, none⟩) (fT a.next.length (rank a))) ∧ Below w.heap.size w w' :=
  (ranks_ok v a w h gd).mono fun e w' he => by
    obtain ⟨g, h1, ho⟩ := he.out
    exact ⟨g, h1, own_is ho (List.mem_append_right _ List.mem_cons_self) (rank_small a _ gd.n40 _ (Nat.le_refl _)), ho.below⟩
theorem moves_gives {v : Value} {a : Ar} {w : World} (h : ArAt w w.heap.size v a) (gd : Good a) :
    Calls Try.prog 10 #[v] w fun e w' => ∃ g, e = .returned (.tuple #[rw_ g a.next.length, .nilIface]) ∧ Hid (IntsAt w' w'.heap.size (some ⟨g, 0, none⟩) (fT a.next.length (moveA a))) ∧ Below w.heap.size w w' :=
  (moves_ok v a w h gd).mono fun e w' he => by
    obtain ⟨g, h1, ho⟩ := he.out
    refine ⟨g, h1, own_is ho (List.mem_append_right _ List.mem_cons_self) (fun x hx => ?_), ho.below⟩
    unfold fT at hx
    obtain ⟨t, ht, rfl⟩ := List.mem_map.1 hx
    have := moveA_ge gd (List.mem_range.1 ht)
    have := gd.n40
    exact ⟨by omega, by omega⟩
/-- What is wrong, as a value. -/
theorem errA_bad {a : Ar} (h : achk a ≠ 0) : ∃ x, errV (achk a) = errI x := by
  rcases e : achk a with _ | k
  · exact absurd e h
  · exact ⟨_, rfl⟩
theorem dints_same {A B : Option Addr} {ca cb : Nat} {l : List Int} {W : World} (h1 : IntsAt W W.heap.size A l) (h2 : IntsAt W W.heap.size B l) (hl : l.length ≤ 140737488355328) :
    Calls Try.prog 11 #[.slice A l.length ca, .slice B l.length cb] W fun e w' => e = .returned (.bool true) ∧ Below W.heap.size W w' :=
  (ints_any A B ca cb l l W h1 h2 hl hl).mono fun e w' ⟨he, n, hn⟩ => ⟨by rw [he.out, decide_eq_true rfl], by rw [hn]; exact below_drewN (Below.refl _ _) n⟩

/-! ### the closed fact -/
def factA : Ar := ⟨[0, 1, 1], [[2], [2, 1], [2]], [false, false, true]⟩
theorem fact_good : Good factA := achk_iff.1 (by decide)
set_option maxRecDepth 100000 in
theorem fact_ranks : fT 3 (rank factA) = [1, -1, 0] := by decide
theorem size_dal (w : World) (o : Obj) : (w.alloc o).heap.size = w.heap.size + 1 := by simp
theorem fact_own (w w6 : World) (g : Nat) (hg : g = w.heap.size)
    (hw : w6 = (((((w.alloc (.cells #[.int .i64 0, .int .i64 1, .int .i64 1] 3)).alloc (.cells #[.int .i64 2] 3)).alloc (.cells #[.int .i64 2, .int .i64 1] 3)).alloc (.cells #[.int .i64 2] 3)).alloc
      (.cells #[.slice (some ⟨g + 1, 0, none⟩) 1 1, .slice (some ⟨g + 1 + 1, 0, none⟩) 2 2, .slice (some ⟨g + 1 + 1 + 1, 0, none⟩) 1 1] 22)).alloc (.cells #[.bool false, .bool false, .bool true] 4)) :
    ArAt w6 w6.heap.size (.agg #[.slice (some ⟨g, 0, none⟩) 3 3, .slice (some ⟨g + 1 + 1 + 1 + 1, 0, none⟩) 3 3, .slice (some ⟨g + 1 + 1 + 1 + 1 + 1, 0, none⟩) 3 3]) factA ∧ Below w.heap.size w w6 := by
  have h0 := (own_start w).lit 3 1 3 #[.int .i64 0, .int .i64 1, .int .i64 1] rfl (by simp [maxLen])
  have h1 := h0.lit 3 1 1 #[.int .i64 2] rfl (by simp [maxLen])
  have h2 := h1.lit 3 1 2 #[.int .i64 2, .int .i64 1] rfl (by simp [maxLen])
  have h3 := h2.lit 3 1 1 #[.int .i64 2] rfl (by simp [maxLen])
  have h4 := h3.lit 22 1 3 #[.slice (some ⟨g + 1, 0, none⟩) 1 1, .slice (some ⟨g + 1 + 1, 0, none⟩) 2 2, .slice (some ⟨g + 1 + 1 + 1, 0, none⟩) 1 1] rfl (by simp [maxLen])
  have h5 := h4.lit 4 1 3 #[.bool false, .bool false, .bool true] rfl (by simp [maxLen])
  simp only [size_dal] at h5
  rw [← hg] at h5
  subst hw
  have hsm : ∀ p ∈ [((.slice (some ⟨g + 1, 0, none⟩) 1 1 : Value), [(2 : Int)]), (.slice (some ⟨g + 1 + 1, 0, none⟩) 2 2, [2, 1]), (.slice (some ⟨g + 1 + 1 + 1, 0, none⟩) 1 1, [2])], ∀ x ∈ p.2, Small x := by
    intro p hp x hx
    simp only [List.mem_cons, List.not_mem_nil, or_false] at hp
    rcases hp with rfl | rfl | rfl
    all_goals
      simp only [List.mem_cons, List.not_mem_nil, or_false] at hx
      first
        | (subst hx; exact ⟨by decide, by decide⟩)
        | (rcases hx with rfl | rfl <;> exact ⟨by decide, by decide⟩)
  obtain ⟨O, co, e1, a1, a2, a3⟩ := own_ints_at h5 (v := .slice (some ⟨g, 0, none⟩) 3 3) (l := [0, 1, 1]) (by simp [eInts, i64]) (fun x hx => by
    simp only [List.mem_cons, List.not_mem_nil, or_false] at hx
    rcases hx with rfl | rfl | rfl <;> exact ⟨by decide, by decide⟩)
  obtain ⟨A, c, e2, b1, b2, b3⟩ := own_rows h5 (nv := .slice (some ⟨g + 1 + 1 + 1 + 1, 0, none⟩) 3 3) (rs := [(.slice (some ⟨g + 1, 0, none⟩) 1 1, [2]), (.slice (some ⟨g + 1 + 1, 0, none⟩) 2 2, [2, 1]), (.slice (some ⟨g + 1 + 1 + 1, 0, none⟩) 1 1, [2])]) (by simp [eRows]) (fun e he => by
    simp only [eEach, List.map_cons, List.map_nil, List.mem_cons, List.not_mem_nil, or_false] at he
    rcases he with rfl | rfl | rfl <;> simp [eInts, i64]) hsm
  obtain ⟨F, cf, e3, c1, c2, c3⟩ := own_bools h5 (fv := .slice (some ⟨g + 1 + 1 + 1 + 1 + 1, 0, none⟩) 3 3) (bs := [false, false, true]) (by simp [eBools])
  exact ⟨⟨O, co, A, c, F, cf, by rw [e1, e2, e3]; rfl, a1, a2, b1, b2, c1, c2, a3, b3, c3⟩, h5.below⟩
set_option maxRecDepth 100000 in
set_option maxHeartbeats 1000000 in
theorem duelFact_any (w : World) : Calls Try.prog 8 #[] w fun e w' => e = .returned (.bool true) ∧ Below w.heap.size w w' := by
  obtain ⟨w6, hw6⟩ : ∃ w6, w6 = (((((w.alloc (.cells #[.int .i64 0, .int .i64 1, .int .i64 1] 3)).alloc (.cells #[.int .i64 2] 3)).alloc (.cells #[.int .i64 2, .int .i64 1] 3)).alloc (.cells #[.int .i64 2] 3)).alloc
      (.cells #[.slice (some ⟨w.heap.size + 1, 0, none⟩) 1 1, .slice (some ⟨w.heap.size + 1 + 1, 0, none⟩) 2 2, .slice (some ⟨w.heap.size + 1 + 1 + 1, 0, none⟩) 1 1] 22)).alloc (.cells #[.bool false, .bool false, .bool true] 4) := ⟨_, rfl⟩
  obtain ⟨k1, k2⟩ := fact_own w w6 _ rfl hw6
  have HC := Lib.hid (ranks_gives k1 fact_good)
  have HW := Lib.hid hw6
  have B := Lib.hid k2
  have HS := Lib.hid (fun (A B : Option Addr) (W : World) (h1 : IntsAt W W.heap.size A [1, -1, 0]) (h2 : IntsAt W W.heap.size B [1, -1, 0]) => dints_same (ca := 3) (cb := 3) h1 h2 (by decide))
  clear k1 k2 hw6
  go_enter Try.func8, Try.ntmps8
  go_wp2_with fail
  rw [← HW.out]
  clear HW
  refine HC.out.mono ?_
  rintro e w7 ⟨g, rfl, hi, hb⟩
  have B := Lib.hid (B.out.trans (hb.mono B.out.size))
  have HI : Hid (IntsAt w7 w7.heap.size (some ⟨g, 0, none⟩) [1, -1, 0]) := by rw [← fact_ranks]; exact hi.out
  clear hi hb HC
  obtain ⟨w8, hw8⟩ : ∃ w8, w8 = w7.alloc (.cells #[.int .i64 1, .int .i64 (-1), .int .i64 0] 3) := ⟨_, rfl⟩
  have hb8 : Below w7.heap.size w7 w8 := by rw [hw8]; exact below_alloc _ _
  have HC := Lib.hid (HS.out _ (some ⟨w7.heap.size, 0, none⟩) w8 (HI.out.on hb8) ⟨fun k u hk => by
    have hlt : w7.heap.size < w8.heap.size := by rw [hw8]; simp
    refine ⟨⟨w7.heap.size, 0, none⟩, rfl, hlt, ?_⟩
    rw [hw8]
    exact World.news_of_block (heap_alloc_new w7 _) k u hk, fun x hx => by
    simp only [List.mem_cons, List.not_mem_nil, or_false] at hx
    rcases hx with rfl | rfl | rfl <;> exact ⟨by decide, by decide⟩⟩)
  have B8 := Lib.hid (B.out.trans (hb8.mono B.out.size))
  have HW := Lib.hid hw8
  clear hb8 hw8 HS HI B
  go_wp2_with fail
  rw [← HW.out]
  clear HW
  refine HC.out.mono ?_
  rintro e w9 ⟨rfl, hb⟩
  have B := Lib.hid (B8.out.trans (hb.mono B8.out.size))
  clear hb HC B8
  go_wp2
  go_ret
  exact ⟨rfl, B.out⟩
end Go.Proofs.Ytkphdegelhlpeaa.Du
