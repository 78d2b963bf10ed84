/- The walks of package reach's Reached and Alive. -/
import Derived.Test.YtjecphfjkpinlaaDoorFirst
import Derived.Test.YtjecphfjkpinlaaDoorSort
import Derived.Test.YtjecphfjkpinlaaDoorReachL
namespace Go.Proofs.YtjecphfjkpinlaaDoor.Rc
open Go.RowKit Go.IntWalk Go.Proofs.YtjecphfjkpinlaaDoor.Wd Go.Proofs.YtjecphfjkpinlaaDoor.Wo Go.Proofs.YtjecphfjkpinlaaDoor.Df

/-! ### sorted lists -/
theorem sorted_eq : ∀ (l m : List Int), l.Pairwise (· ≤ ·) → m.Pairwise (· ≤ ·) → l.Perm m → l = m
  | [], m, _, _, p => p.nil_eq
  | x :: l, [], _, _, p => by have := p.length_eq; simp at this
  | x :: l, y :: m, hl, hm, p => by
    obtain ⟨hl1, hl2⟩ := List.pairwise_cons.1 hl
    obtain ⟨hm1, hm2⟩ := List.pairwise_cons.1 hm
    have e : x = y := by
      have h1 : x ∈ y :: m := p.mem_iff.1 List.mem_cons_self
      have h2 : y ∈ x :: l := p.mem_iff.2 List.mem_cons_self
      rcases List.mem_cons.1 h1 with h1 | h1
      · exact h1
      · rcases List.mem_cons.1 h2 with h2 | h2
        · exact h2.symm
        · have := hm1 x h1; have := hl1 y h2; omega
    subst e
    rw [sorted_eq l m hl2 hm2 (List.perm_cons _ |>.1 p)]
theorem srt_sorted (l : List Int) : (srt l).Pairwise (· ≤ ·) := by
  have h := List.pairwise_mergeSort (le := fun (x y : Int) => decide (x ≤ y)) (fun a b c h1 h2 => by
    have h1 := of_decide_eq_true h1; have h2 := of_decide_eq_true h2; exact decide_eq_true (by omega)) (fun a b => by
    rcases Int.le_total a b with h | h
    · rw [decide_eq_true h]; rfl
    · rw [decide_eq_true h, Bool.or_true]) l
  exact h.imp fun h => of_decide_eq_true h
theorem upto_sorted (n : Nat) (p : Nat → Bool) : (upto n p).Pairwise (· ≤ ·) := by
  unfold upto
  rw [List.pairwise_map]
  exact (List.Pairwise.filter _ List.pairwise_lt_range).imp (fun h => by omega)
theorem nodup_map_int {l : List Nat} (h : l.Nodup) : (l.map fun (t : Nat) => (t : Int)).Nodup := by
  rw [List.nodup_iff_pairwise_ne, List.pairwise_map]
  exact (List.nodup_iff_pairwise_ne.1 h).imp fun h e => h (by omega)
theorem srt_reached {d : Aut} (g : Df.Good d) : srt (ints (rset d d.s.toNat)) = upto d.next.length (isReached d d.s.toNat) := by
  refine sorted_eq _ _ (srt_sorted _) (upto_sorted _ _) ((List.mergeSort_perm _ _).trans ?_)
  have hn := (rset_whole g g.s_lt).nd
  unfold ints upto
  refine List.Perm.map _ ((List.perm_ext_iff_of_nodup hn (List.nodup_range.filter _)).2 fun t => ?_)
  rw [List.mem_filter, List.mem_range]
  constructor
  · exact fun h => ⟨rset_lt g g.s_lt h, decide_eq_true h⟩
  · exact fun h => of_decide_eq_true h.2
/-- The states of the first k that are found. -/
def stt (rs : List Fv) (k : Nat) : List Int := (rs.take k).map fun p => ((p.1.1 : Nat) : Int)
theorem stt_zero (rs : List Fv) : stt rs 0 = [] := rfl
theorem stt_succ {rs : List Fv} {k : Nat} {p : Fv} (h : rs[k]? = some p) : stt rs (k + 1) = stt rs k ++ [((p.1.1 : Nat) : Int)] := take_succ_map _ _ h
theorem stt_length {rs : List Fv} {k : Nat} (h : k ≤ rs.length) : (stt rs k).length = k := by unfold stt; rw [List.length_map, List.length_take]; omega
theorem stt_all (rs : List Fv) : stt rs rs.length = ints ((rs.map (·.1)).map (·.1)) := by unfold stt ints; rw [List.take_length, List.map_map, List.map_map]; rfl
/-- What Reached and Alive return. -/
def reachedR (d : Aut) : List Int × Nat := if dchk d = 0 then (upto d.next.length (isReached d d.s.toNat), 0) else ([], dchk d)
def aliveR (d : Aut) : List Int × Nat := if dchk d = 0 then (upto d.next.length (isAlive d), 0) else ([], dchk d)
theorem reachedR_ok {d : Aut} (h : dchk d = 0) : reachedR d = (upto d.next.length (isReached d d.s.toNat), 0) := by unfold reachedR; rw [if_pos h]
theorem reachedR_bad {d : Aut} (h : dchk d ≠ 0) : reachedR d = ([], dchk d) := by unfold reachedR; rw [if_neg h]
theorem aliveR_ok {d : Aut} (h : dchk d = 0) : aliveR d = (upto d.next.length (isAlive d), 0) := by unfold aliveR; rw [if_pos h]
theorem aliveR_bad {d : Aut} (h : dchk d ≠ 0) : aliveR d = ([], dchk d) := by unfold aliveR; rw [if_neg h]
theorem sizeAl (w : World) (o : Obj) : (w.alloc o).heap.size = w.heap.size + 1 := by simp
theorem alive_of_some {d : Aut} (g : Df.Good d) {k : Nat} (hk : k < d.next.length) {u : List Int} (h : firstW d k = some u) : isAlive d k = true := by
  obtain ⟨h1, _, h3, _⟩ := firstW_some g hk h
  exact (isAlive_iff g hk).2 ⟨u, h1, h3⟩
theorem alive_of_none {d : Aut} (g : Df.Good d) {k : Nat} (hk : k < d.next.length) (h : firstW d k = none) : isAlive d k = false := by
  rcases e : isAlive d k with _ | _
  · rfl
  · obtain ⟨w, hw, hf⟩ := (isAlive_iff g hk).1 e
    rw [firstW_none g hk h hw] at hf; cases hf
theorem upto_hit {n : Nat} {p : Nat → Bool} (h : p n = true) : upto (n + 1) p = upto n p ++ [(n : Int)] := by rw [upto_succ, if_pos h]
theorem upto_miss {n : Nat} {p : Nat → Bool} (h : p n = false) : upto (n + 1) p = upto n p := by rw [upto_succ, if_neg (by rw [h]; decide), List.append_nil]
end Go.Proofs.YtjecphfjkpinlaaDoor.Rc
