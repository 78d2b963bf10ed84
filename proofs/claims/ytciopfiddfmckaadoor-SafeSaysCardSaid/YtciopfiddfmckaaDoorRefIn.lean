/- The walk of the document's answer of final states by their distance: stilewardref1's In. -/
import Derived.Test.YtciopfiddfmckaaDoorBoolT
import Derived.Test.YtciopfiddfmckaaDoorFound
import Derived.Test.YtciopfiddfmckaaDoorReachL
import Derived.Test.YtciopfiddfmckaaDoorDfaR
namespace Go.Proofs.YtciopfiddfmckaaDoor.Rc
open Go.RowKit Go.IntWalk Go.Proofs.YtciopfiddfmckaaDoor.Wd Go.Proofs.YtciopfiddfmckaaDoor.Wo Go.Proofs.YtciopfiddfmckaaDoor.Df

/-- By the letters below c. -/
def inTo (d : Aut) (k s c : Nat) : Bool := (List.range c).any fun a => inK d k (Df.step d s a)
theorem inTo_succ (d : Aut) (k s c : Nat) : inTo d k s (c + 1) = (inTo d k s c || inK d k (Df.step d s c)) := by unfold inTo; rw [List.range_succ, List.any_append]; simp
theorem inTo_full (d : Aut) (k s : Nat) : inTo d k s d.L.toNat = inK d (k + 1) s := rfl
def g0 (d : Aut) (s t : Nat) : Bool := if t < s then finA d t else false
def gI (d : Aut) (k s c t : Nat) : Bool := if t < s then inK d (k + 1) t else if t = s then inTo d k s c else false
theorem g0_start (d : Aut) (n : Nat) : bF n (g0 d 0) = List.replicate n false := by
  rw [← bF_false]; exact bF_congr fun t _ => by unfold g0; rw [if_neg (by omega)]
theorem g0_step (d : Aut) (s n : Nat) : (bF n (g0 d s)).set s (finA d s) = bF n (g0 d (s + 1)) := by
  rw [bF_set]
  refine bF_congr fun t _ => ?_
  unfold g0
  by_cases e : t = s
  · subst e; rw [if_pos rfl, if_pos (by omega)]
  · rw [if_neg e]
    by_cases e2 : t < s
    · rw [if_pos e2, if_pos (by omega)]
    · rw [if_neg e2, if_neg (by omega)]
theorem g0_done (d : Aut) (n : Nat) : bF n (g0 d n) = bF n (inK d 0) := bF_congr fun t ht => by unfold g0; rw [if_pos ht]; rfl
theorem gI_start (d : Aut) (k n : Nat) : bF n (gI d k 0 0) = List.replicate n false := by
  rw [← bF_false]
  refine bF_congr fun t _ => ?_
  unfold gI
  rw [if_neg (by omega)]
  split
  · rfl
  · rfl
theorem gI_hit {d : Aut} {k s c n : Nat} (h : inK d k (Df.step d s c) = true) : (bF n (gI d k s c)).set s true = bF n (gI d k s (c + 1)) := by
  rw [bF_set]
  refine bF_congr fun t _ => ?_
  unfold gI
  by_cases e : t = s
  · subst e; rw [if_pos rfl, if_neg (by omega), if_pos rfl, inTo_succ, h, Bool.or_true]
  · rw [if_neg e, if_neg e, if_neg e]
theorem gI_miss {d : Aut} {k s c n : Nat} (h : inK d k (Df.step d s c) = false) : bF n (gI d k s c) = bF n (gI d k s (c + 1)) := by
  refine bF_congr fun t _ => ?_
  unfold gI
  rw [inTo_succ, h, Bool.or_false]
theorem gI_row (d : Aut) (k s n : Nat) : bF n (gI d k s d.L.toNat) = bF n (gI d k (s + 1) 0) := by
  refine bF_congr fun t _ => ?_
  unfold gI
  by_cases h1 : t < s
  · rw [if_pos h1, if_pos (by omega)]
  · rw [if_neg h1]
    by_cases h2 : t = s
    · subst h2; rw [if_pos rfl, if_pos (by omega)]; rfl
    · rw [if_neg h2, if_neg (by omega)]
      split
      · rfl
      · rfl
theorem gI_done (d : Aut) (k n : Nat) : bF n (gI d k n 0) = bF n (inK d (k + 1)) := bF_congr fun t ht => by unfold gI; rw [if_pos ht]
/-- The rows so far. -/
def InRows (d : Aut) (N : Nat) (rs : List Br) : Prop := ∀ j r, rs[j]? = some r → r.2 = bF N (inK d j)
theorem inRows_snoc {d : Aut} {N : Nat} {rs : List Br} (h : InRows d N rs) (g : Nat) : InRows d N (rs ++ [(g, bF N (inK d rs.length))]) := fun j r hj => by
  by_cases hl : j < rs.length
  · rw [List.getElem?_append_left hl] at hj; exact h j r hj
  · have h2 := (List.getElem?_eq_some_iff.1 hj).1
    rw [List.length_append, List.length_singleton] at h2
    obtain rfl : j = rs.length := by omega
    rw [List.getElem?_append_right (Nat.le_refl _), Nat.sub_self] at hj
    simp at hj; subst hj; rfl
theorem ownT_on {w0 w w' : World} {N : Nat} {tv : Value} {rs : List Br} {es : List Ent} (h : OwnT w0 w N tv rs es) (hb : Below w.heap.size w w') : OwnT w0 w' N tv rs es := ⟨h.1.on hb, h.2⟩
theorem ownT_snoc {w0 w : World} {N : Nat} {v : Value} {rs : List Br} {g : Nat} {l : List Bool} (hl : l.length = N) (hr : ∀ r ∈ rs, r.2.length = N) (h : Own w0 w (eBRows v (rs.map (brV N) ++ [rowV g N]) :: [eBools (rowV g N) l]) (eEachB N rs)) : OwnT w0 w N v (rs ++ [(g, l)]) [] := by
  refine ⟨?_, fun r hm => ?_⟩
  · rw [List.map_append]
    refine (h.two.fin).weak (fun e he => ?_)
    rw [eEachB_snoc] at he
    rcases List.mem_append.1 he with he | he
    · exact List.mem_cons_of_mem _ he
    · simp at he; subst he; exact List.mem_cons_self
  · rcases List.mem_append.1 hm with hm | hm
    · exact hr r hm
    · simp at hm; subst hm; exact hl
/-- The table under way. -/
def NInv (w1 wr : World) (d : Aut) (N k : Nat) (tv : Value) : Prop := ∃ rs, OwnT w1 wr N tv rs [] ∧ rs.length = k ∧ InRows d N rs
end Go.Proofs.YtciopfiddfmckaaDoor.Rc
