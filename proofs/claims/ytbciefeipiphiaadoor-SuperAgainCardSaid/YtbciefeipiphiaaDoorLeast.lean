/- What the law ReachLeast asks besides: a literal automaton and its first word; lists that functions of package reach return. -/
import Derived.Test.YtbciefeipiphiaaDoorFirst
import Derived.Test.YtbciefeipiphiaaDoorDfaV
namespace Go.Proofs.YtbciefeipiphiaaDoor.Rc
open Go.RowKit Go.IntWalk Go.Proofs.YtbciefeipiphiaaDoor.Wd Go.Proofs.YtbciefeipiphiaaDoor.Wo Go.Proofs.YtbciefeipiphiaaDoor.Df

/-- What a function gives that returns a list of ints and an error. -/
def GivesI (f : Nat) (args : Array Value) (W : World) (E : Value) (l : List Int) : Prop :=
  Calls Tryd.prog f args W fun e w' => ∃ A c, e = .returned (.tuple #[.slice A l.length c, E]) ∧ Hid (IntsAt w' w'.heap.size A l) ∧ Below W.heap.size W w'
theorem givesI_of {f : Nat} {args : Array Value} {W : World} {out : List Int × Nat} (h : Calls Tryd.prog f args W fun e w' => Hid (IntsR out W e w')) {E : Value} {l : List Int} (hE : errV out.2 = E) (hl : out.1 = l) (hs : ∀ x ∈ l, Small x) : GivesI f args W E l := by
  subst hl hE
  refine h.mono fun e w' he => ?_
  obtain ⟨wv, h1, ho⟩ := he.out
  obtain ⟨A, c, rfl, _, _, hA⟩ := own_ints_at ho (List.mem_append_right _ List.mem_cons_self) hs
  exact ⟨A, c, h1, hA, ho.below⟩
theorem word_small {L : Int} (h6 : L ≤ 6) {w : List Int} (hw : Word L w) : ∀ x ∈ w, Small x := fun x hx => by
  have := hw x hx
  exact ⟨by omega, by omega⟩
theorem firstOut_small (d : Aut) : ∀ x ∈ (firstOut d).1, Small x := by
  unfold firstOut
  split
  · rename_i h
    have g := dchk_iff.1 h
    rcases hf : firstW d d.s.toNat with _ | u
    · intro x hx; simp at hx
    · exact word_small g.l6 (firstW_some g g.s_lt hf).1
  · intro x hx; simp at hx
def leastA : Aut := ⟨2, 0, [[0, 1], [1, 1]], [false, true]⟩
theorem leastFirst : firstOut leastA = ([1], 0) := by decide
theorem size_al2 (w : World) (o : Obj) : (w.alloc o).heap.size = w.heap.size + 1 := by simp
/-- The literal that ReachLeast makes. -/
theorem least_own (w w4 : World) (g : Nat) (hg : g = w.heap.size)
    (hw : w4 = (((w.alloc (.cells #[.int .i64 0, .int .i64 1] 3)).alloc (.cells #[.int .i64 1, .int .i64 1] 3)).alloc (.cells #[.slice (some ⟨g, 0, none⟩) 2 2, .slice (some ⟨g + 1, 0, none⟩) 2 2] 27)).alloc (.cells #[.bool false, .bool true] 4)) :
    DfaOwn w w4 (.agg #[.int .i64 2, .int .i64 0, .slice (some ⟨g + 1 + 1, 0, none⟩) 2 2, .slice (some ⟨g + 1 + 1 + 1, 0, none⟩) 2 2]) leastA := by
  have h1 := (own_start w).lit 3 1 2 #[.int .i64 0, .int .i64 1] rfl (by simp [maxLen])
  have h2 := h1.lit 3 1 2 #[.int .i64 1, .int .i64 1] rfl (by simp [maxLen])
  have h3 := h2.lit 27 1 2 #[.slice (some ⟨g, 0, none⟩) 2 2, .slice (some ⟨g + 1, 0, none⟩) 2 2] rfl (by simp [maxLen])
  have h4 := h3.lit 4 1 2 #[.bool false, .bool true] rfl (by simp [maxLen])
  simp only [size_al2] at h4
  rw [← hg] at h4
  subst hw
  refine ⟨_, _, [(.slice (some ⟨g, 0, none⟩) 2 2, [0, 1]), (.slice (some ⟨g + 1, 0, none⟩) 2 2, [1, 1])], rfl, rfl, h4.fin.fin.fin.fin.weak (fun e he => ?_), ?_, ⟨by decide, by decide⟩, ⟨by decide, by decide⟩⟩
  · simp only [eEach, List.map_cons, List.map_nil, List.mem_cons, List.not_mem_nil, or_false] at he ⊢
    rcases he with rfl | rfl | rfl | rfl
    · exact .inr (.inr (.inl rfl)) 
    · exact .inr (.inr (.inr rfl))
    · exact .inl rfl
    · exact .inr (.inl rfl)
  · intro p hp x hx
    simp only [List.mem_cons, List.not_mem_nil, or_false] at hp
    rcases hp with rfl | rfl
    all_goals
      simp only [List.mem_cons, List.not_mem_nil, or_false] at hx
      rcases hx with rfl | rfl <;> exact ⟨by decide, by decide⟩
theorem lit_one (w : World) (z : Int) (hs : Small z) : IntsAt (w.alloc (.cells #[.int .i64 z] 3)) (w.alloc (.cells #[.int .i64 z] 3)).heap.size (some ⟨w.heap.size, 0, none⟩) [z] := by
  have h := (own_start w).lit 3 1 1 #[.int .i64 z] rfl (by simp [maxLen])
  exact ⟨h.cells (t := 3) (sz := 1) (n := 1) (cap := 1) (A := some ⟨w.heap.size, 0, none⟩) (xs := [i64 z]) (by simp [i64]), fun x hx => by simp at hx; subst hx; exact hs⟩
/-- Behind a word that is not ahead. -/
theorem len_of_not_lss {v w : List Int} (h : lss v w = false) (h2 : ¬ w.length < v.length) : w.length = v.length := by
  unfold lss at h
  by_cases e : v.length = w.length
  · exact e.symm
  · rw [if_neg e] at h
    have := of_decide_eq_false h
    omega
end Go.Proofs.YtbciefeipiphiaaDoor.Rc
