/- Automata in many states that a call makes: structs, rows of moves. The walks of package nfa's Mirror and Of. The walk of package nfa's Of. -/
import Derived.Test.YtdkbdoogjehkfaaDoorNfaS
import Derived.Test.YtdkbdoogjehkfaaDoorDfaP
import Derived.Test.YtdkbdoogjehkfaaDoorRegL
import Derived.Handy
import Derived.Deep.Light
import Derived.Test.YtdkbdoogjehkfaaDoorDfaW

namespace Go.Proofs.YtdkbdoogjehkfaaDoor.Nf
open Go.RowKit Go.IntWalk Go.Proofs.YtdkbdoogjehkfaaDoor.Wd Go.Proofs.YtdkbdoogjehkfaaDoor.Wo Go.Proofs.YtdkbdoogjehkfaaDoor.Df

/-! ### the struct, in a block of its own -/
abbrev zero5 : List Value := [.int .i64 0, .int .i64 0, .slice none 0 0, .slice none 0 0, .slice none 0 0]
/-! ### rows of moves -/
theorem own_all {w0 w : World} : ∀ {es fs : List Ent}, Own w0 w es fs → ∃ fs', Own w0 w [] fs' ∧ ∀ e ∈ es ++ fs, e ∈ fs'
  | [], fs, h => ⟨fs, h, fun e he => by simpa using he⟩
  | x :: es, fs, h => by
    obtain ⟨fs', h1, h2⟩ := own_all h.fin
    exact ⟨fs', h1, fun e he => h2 e (by simp at he ⊢; rcases he with h | h | h <;> simp [h])⟩
theorem good_mvsmall {a : Nfa} (g : Good a) : ∀ m ∈ a.mv, MvSmall m := fun m hm => by
  have h := g.mv m hm
  have := g.n40; have := g.l6
  obtain ⟨⟨h1, h2⟩, ⟨h3, h4⟩, h5, h6⟩ := h
  exact ⟨⟨by omega, by omega⟩, ⟨by omega, by omega⟩, ⟨by omega, by omega⟩⟩
theorem good_st {a : Nfa} (g : Good a) : ∀ x ∈ a.st, Small x := fun x hx => by
  have h := g.st x hx
  have := g.n40
  exact ⟨by have := h.1; omega, by have := h.2; omega⟩
theorem good_fin {a : Nfa} (g : Good a) : ∀ x ∈ a.fin, Small x := fun x hx => by
  have h := g.fin x hx
  have := g.n40
  exact ⟨by have := h.1; omega, by have := h.2; omega⟩
theorem good_nL {a : Nfa} (g : Good a) : Small a.L ∧ Small a.n := ⟨⟨by have := g.l1; omega, by have := g.l6; omega⟩, ⟨by have := g.n1; omega, by have := g.n40; omega⟩⟩

/-! ### slices.Clone of any slice of ints -/
end Go.Proofs.YtdkbdoogjehkfaaDoor.Nf

namespace Go.Proofs.YtdkbdoogjehkfaaDoor.Wd
open Go.RowKit Go.IntWalk
/-- Two may come up. -/
theorem wpZ_pair {P : Program} {ops : Array Oper} {Q : Exit → Act → World → Prop} {md : Region.Mode} {S : World → Prop} {z i j : Nat} {oi oj : Oper} {n : Nat} {listed : Array Bool} {a : Act} {w : World} (hi : ops[i]? = some oi) (hj : ops[j]? = some oj) (hr : Region.ready md ops listed = [i, j])
    (h1 : ∀ K : Act → World → Prop, Shut (∀ b u, (i ≠ z → S u) → ((i ≠ z → S u) → wpZ P md ops Q S z n (listed.setIfInBounds i true) b u) → K b u) →
      if Region.wanted oi (yielded ops a.tmps) = true then Oper.wp P oi a w K Q else K (a.put oi.dst undef) w)
    (h2 : ∀ K : Act → World → Prop, Shut (∀ b u, (j ≠ z → S u) → ((j ≠ z → S u) → wpZ P md ops Q S z n (listed.setIfInBounds j true) b u) → K b u) →
      if Region.wanted oj (yielded ops a.tmps) = true then Oper.wp P oj a w K Q else K (a.put oj.dst undef) w) : wpZ P md ops Q S z (n + 1) listed a w :=
  ⟨fun e => (by rw [hr] at e; cases e), fun k hk => by
    rw [hr] at hk
    rcases List.mem_cons.1 hk with rfl | hk
    · exact wpOp_step hi fun K hK => h1 K fun b u hS hW => hK b u ⟨hS, hW hS⟩
    · obtain rfl := List.mem_singleton.1 hk
      exact wpOp_step hj fun K hK => h2 K fun b u hS hW => hK b u ⟨hS, hW hS⟩⟩
end Go.Proofs.YtdkbdoogjehkfaaDoor.Wd
namespace Go.Proofs.YtdkbdoogjehkfaaDoor.Nf
open Go.RowKit Go.IntWalk Go.Proofs.YtdkbdoogjehkfaaDoor.Wd Go.Proofs.YtdkbdoogjehkfaaDoor.Wo Go.Proofs.YtdkbdoogjehkfaaDoor.Df

def mirOut (a : Nfa) : Nfa × Nat := if nchk a = 0 then (mir a, 0) else (zeroN, nchk a)
theorem mirOut_ok {a : Nfa} (h : nchk a = 0) : mirOut a = (mir a, 0) := if_pos h
theorem mirOut_bad {a : Nfa} (h : nchk a ≠ 0) : mirOut a = (zeroN, nchk a) := if_neg h
theorem zeroN_at {w w2 : World} (hb : Below w.heap.size w w2) : NfaAt w2 w2.heap.size (.agg #[.int .i64 0, .int .i64 0, .slice none 0 0, .slice none 0 0, .slice none 0 0]) zeroN ∧ Below w.heap.size w w2 := ⟨nfaAt_zero _ _, hb⟩
end Go.Proofs.YtdkbdoogjehkfaaDoor.Nf

namespace Go.Proofs.YtdkbdoogjehkfaaDoor.Nf
open Go.RowKit Go.IntWalk Go.Proofs.YtdkbdoogjehkfaaDoor.Wd Go.Proofs.YtdkbdoogjehkfaaDoor.Wo Go.Proofs.YtdkbdoogjehkfaaDoor.Df

def ofOut (d : Aut) : Nfa × Nat := if dchk d = 0 then (ofA d, 0) else (zeroN, dchk d)
theorem ofOut_ok {d : Aut} (h : dchk d = 0) : ofOut d = (ofA d, 0) := if_pos h
theorem ofOut_bad {d : Aut} (h : dchk d ≠ 0) : ofOut d = (zeroN, dchk d) := if_neg h
def mvRow (d : Aut) (q c : Nat) : List Mv := (List.range c).map fun (k : Nat) => ((q : Int), (k : Int), ((Df.step d q k : Nat) : Int))
def mvTo (d : Aut) (s : Nat) : List Mv := (List.range s).flatMap fun (q : Nat) => mvRow d q d.L.toNat
theorem mvRow_zero (d : Aut) (q : Nat) : mvRow d q 0 = [] := rfl
theorem mvRow_succ (d : Aut) (q c : Nat) : mvRow d q (c + 1) = mvRow d q c ++ [((q : Int), (c : Int), ((Df.step d q c : Nat) : Int))] := by unfold mvRow; rw [List.range_succ, List.map_append]; rfl
theorem mvTo_zero (d : Aut) : mvTo d 0 = [] := rfl
theorem mvTo_succ (d : Aut) (s : Nat) : mvTo d (s + 1) = mvTo d s ++ mvRow d s d.L.toNat := by unfold mvTo; rw [List.range_succ, List.flatMap_append]; simp
theorem mvRow_len (d : Aut) (q c : Nat) : (mvRow d q c).length = c := by simp [mvRow]
theorem mvTo_len (d : Aut) : ∀ s, (mvTo d s).length = s * d.L.toNat
  | 0 => by simp [mvTo_zero]
  | s + 1 => by rw [mvTo_succ, List.length_append, mvTo_len d s, mvRow_len, Nat.succ_mul]
def finTo (d : Aut) (s : Nat) : List Int := ((List.range s).filter (finA d)).map fun (q : Nat) => (q : Int)
theorem finTo_hit {d : Aut} {s : Nat} (h : finA d s = true) : finTo d (s + 1) = finTo d s ++ [(s : Int)] := by unfold finTo; rw [List.range_succ, List.filter_append, List.map_append]; simp [h]
theorem finTo_miss {d : Aut} {s : Nat} (h : finA d s = false) : finTo d (s + 1) = finTo d s := by unfold finTo; rw [List.range_succ, List.filter_append, List.map_append]; simp [h]
theorem finTo_len (d : Aut) (s : Nat) : (finTo d s).length ≤ s := by
  unfold finTo
  rw [List.length_map]
  exact Nat.le_trans (List.length_filter_le _ _) (by simp)
theorem ofA_to (d : Aut) : ofA d = ⟨d.L, (d.next.length : Int), [d.s], mvTo d d.next.length, finTo d d.next.length⟩ := rfl
end Go.Proofs.YtdkbdoogjehkfaaDoor.Nf
