/- The walks of package reach that count: leading and Count. -/
import Derived.Test.YtciopfiddfmckaaDoorDfaP
import Derived.Test.YtciopfiddfmckaaDoorReachC
import Derived.Handy
namespace Go.Proofs.YtciopfiddfmckaaDoor.Rc
open Go.RowKit Go.IntWalk Go.Proofs.YtciopfiddfmckaaDoor.Wd Go.Proofs.YtciopfiddfmckaaDoor.Wo Go.Proofs.YtciopfiddfmckaaDoor.Df

/-- Numbers as ints. -/
def ints (l : List Nat) : List Int := l.map fun (x : Nat) => (x : Int)
theorem ints_length (l : List Nat) : (ints l).length = l.length := List.length_map _
theorem ints_get {l : List Nat} {i x : Nat} (h : l[i]? = some x) : (ints l)[i]? = some (x : Int) := by unfold ints; rw [List.getElem?_map, h]; rfl
theorem ints_set (l : List Nat) (i x : Nat) : ints (l.set i x) = (ints l).set i (x : Int) := by unfold ints; rw [List.map_set]
theorem ints_zero (n : Nat) : ints (List.replicate n 0) = List.replicate n 0 := by unfold ints; rw [List.map_replicate]; rfl
theorem get_of_lt {l : List Nat} {i : Nat} (h : i < l.length) : ∃ x, l[i]? = some x := ⟨_, List.getElem?_eq_getElem h⟩
/-- A row of n ints in block g. -/
abbrev rowV (g n : Nat) : Value := .slice (some ⟨g, 0, none⟩) n n
def LInv (w1 wr : World) (d : Aut) (N k : Nat) (pv : Value) : Prop := ∃ g l, pv = rowV g N ∧ Lead d k l ∧ Own w1 wr [eInts (rowV g N) (ints l)] []
def MInv (w1 wr : World) (d : Aut) (N : Nat) (l : List Nat) (g gm s c : Nat) : Prop := ∃ m, Push d l m s c ∧ Own w1 wr [eInts (rowV gm N) (ints m), eInts (rowV g N) (ints l)] []
theorem minv_set {w1 wr : World} {d : Aut} {N : Nat} {l m : List Nat} {g gm s c x y t : Nat} (hp : Push d l m s c) (ho : Own w1 wr [eInts (rowV gm N) (ints m), eInts (rowV g N) (ints l)] []) (hN : d.next.length = N)
    (hx : l[s]? = some x) (ht : Df.step d s c = t) (hy : m[t]? = some y) (n : Nat) : MInv w1 ((wr.drewN n).setCell ⟨gm, t, none⟩ (.int .i64 ((y : Int) + (x : Int)))) d N l g gm s (c + 1) := by
  refine ⟨_, hp.step hx ht hy, ?_⟩
  rw [ints_set]
  have h := own_ints_set (ho.drewN n) (by rw [ints_length, hp.len, hN]) t ((y + x : Nat) : Int)
  simpa using h
theorem countOut_ok {d : Aut} {n : Nat} (h : dchk d = 0) (hn : n ≤ 20) : countOut d n = (((cnt d n d.s.toNat : Nat) : Int), 0) := by
  unfold countOut; rw [if_pos h, if_pos ⟨by omega, by omega⟩]; rfl
theorem countOut_far {d : Aut} {n : Int} (h : dchk d = 0) (hn : n < 0 ∨ 20 < n) : countOut d n = (0, 1) := by
  unfold countOut; rw [if_pos h, if_neg (by omega)]
theorem countOut_bad {d : Aut} {n : Int} (h : dchk d ≠ 0) : countOut d n = (0, dchk d) := by unfold countOut; rw [if_neg h]
end Go.Proofs.YtciopfiddfmckaaDoor.Rc
