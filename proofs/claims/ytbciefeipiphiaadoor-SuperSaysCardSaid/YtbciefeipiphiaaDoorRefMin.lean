/- The walk of the document's answer for the smallest automaton: stilewardref1's Minimal. -/
import Derived.Test.YtbciefeipiphiaaDoorRefSame
import Derived.Test.YtbciefeipiphiaaDoorRefTrim
import Derived.Test.YtbciefeipiphiaaDoorDfaV
namespace Go.Proofs.YtbciefeipiphiaaDoor.Sm
open Go.RowKit Go.IntWalk Go.Proofs.YtbciefeipiphiaaDoor.Wd Go.Proofs.YtbciefeipiphiaaDoor.Wo Go.Proofs.YtbciefeipiphiaaDoor.Df Go.Proofs.YtbciefeipiphiaaDoor.Rc

/-- Each state's first one that is alike, midway. -/
def stF (d : Aut) (s t : Nat) : Int := if t < s then ((kin d d t : Nat) : Int) else 0
def kinI (d : Aut) (t : Nat) : Int := ((kin d d t : Nat) : Int)
theorem stF_start (d : Aut) (n : Nat) : List.replicate n 0 = iF n (stF d 0) := by
  rw [← iF_zero]; exact iF_congr fun t _ => by unfold stF; rw [if_neg (by omega)]
theorem stF_step (d : Aut) (s n : Nat) : (iF n (stF d s)).set s ((kin d d s : Nat) : Int) = iF n (stF d (s + 1)) := by
  rw [iF_set]
  refine iF_congr fun t _ => ?_
  unfold stF
  by_cases e : t = s
  · subst e; rw [if_pos rfl, if_pos (by omega)]
  · rw [if_neg e]
    by_cases e2 : t < s
    · rw [if_pos e2, if_pos (by omega)]
    · rw [if_neg e2, if_neg (by omega)]
theorem stF_full (d : Aut) (n : Nat) : iF n (stF d n) = iF n (kinI d) := iF_congr fun t ht => by unfold stF kinI; rw [if_pos ht]
/-- A row, midway. -/
def rowQ (d : Aut) (k c : Nat) : List Int := ((S1 d k).take c).map fun t => ((kin d d t : Nat) : Int)
theorem rowQ_step {d : Aut} {k c t : Nat} (h : (S1 d k)[c]? = some t) : rowQ d k (c + 1) = rowQ d k c ++ [kinI d t] := take_succ_map _ _ h
theorem rowQ_len (d : Aut) (k c : Nat) : (rowQ d k c).length ≤ c := by unfold rowQ; rw [List.length_map, List.length_take]; omega
/-- The result under way. -/
def QM (w2 wr : World) (g gs N : Nat) (d : Aut) (n p k : Nat) : Prop := ∃ nv fv rr, Build w2 wr g [eInts (rowV gs N) (iF N (kinI d))] (n : Int) (kinI d p) ((quo d).next.take k) (d.fin.take k) nv fv rr
/-- The same within a row. -/
def QR (w2 wr : World) (g gs N : Nat) (d : Aut) (n p k : Nat) (nv fv : Value) (rr : List (Value × List Int)) (rv : Value) (c : Nat) : Prop :=
  Own w2 wr (eInts rv (rowQ d k c) :: eRows nv (rr.map (·.1)) :: eBools fv (d.fin.take k) :: eDfa g [.int .i64 (n : Int), .int .i64 (kinI d p), nv, fv] :: [eInts (rowV gs N) (iF N (kinI d))]) (eEach rr)
end Go.Proofs.YtbciefeipiphiaaDoor.Sm
