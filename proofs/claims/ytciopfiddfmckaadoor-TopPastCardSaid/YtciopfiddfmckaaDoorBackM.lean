/- Plain mathematics of automata made of formulas: the automaton that reads from the end. Plain mathematics of automata made of formulas: the one that reads forwards, made by mirroring: it accepts just where the formula holds, and it is the smallest one (Brzozowski). -/
import Derived.Test.YtciopfiddfmckaaDoorFormM
import Derived.Test.YtciopfiddfmckaaDoorDfaM

namespace Go.Proofs.YtciopfiddfmckaaDoor.Fm

/-! ### the automaton that reads from the end -/
def backS (L : Int) (f : List Nd) (v : List Bool) : List (List Bool) := (List.range L.toNat).map fun (a : Nat) => nxt f v a
def backF (f : List Nd) (v : List Bool) : Bool := v.getD (f.length - 1) false
/-- What Back gives, of a formula without fault. -/
def backOut (L : Int) (f : List Nd) : Df.Aut × Nat := Df.explOut L (backS L f) (vec f []) (backF f)
theorem backS_length {L : Int} (h : 0 ≤ L) (f : List Nd) (v : List Bool) : ((backS L f v).length : Int) = L := by simp [backS]; omega
theorem backS_get {L : Int} (f : List Nd) (v : List Bool) {a : Nat} (h : (a : Int) < L) : (backS L f v)[a]? = some (nxt f v a) := by
  rw [backS, List.getElem?_map, List.getElem?_range (by omega)]; rfl
theorem back_via {L : Int} {f : List Nd} (hg : ∀ j n, f[j]? = some n → NdGood L j n) : ∀ (w v : List Int), Df.Word L v → Df.viaAll (backS L f) (vec f w) v = vec f (v.reverse ++ w)
  | w, [], _ => rfl
  | w, a :: v, h => by
    have ha := h a (by simp)
    have e : Df.via (backS L f) (vec f w) a.toNat = vec f (a :: w) := by
      unfold Df.via
      rw [backS_get f _ (by omega), Option.getD_some, show ((a.toNat : Nat) : Int) = a by omega, vec_next hg]
    show Df.viaAll (backS L f) (Df.via (backS L f) (vec f w) a.toNat) v = _
    rw [e, back_via hg (a :: w) v fun x hx => h x (by simp [hx])]
    simp
theorem back_good {L : Int} {f : List Nd} (g : FGood L f) {l : List (List Bool)} (hf : Df.found (backS L f) (vec f []) = some l) : Df.Good (Df.autOf L (backS L f) l (backF f)) :=
  Df.autOf_good (Df.found_whole hf) g.l1 g.l6 fun x _ => backS_length (by have := g.l1; omega) f x
/-- A word is judged from its end. -/
theorem back_acc {L : Int} {f : List Nd} (g : FGood L f) {l : List (List Bool)} (hf : Df.found (backS L f) (vec f []) = some l) {w : List Int} (hw : Df.Word L w) :
    Df.accA (Df.autOf L (backS L f) l (backF f)) w = vat f w.reverse (f.length - 1) 0 := by
  rw [Df.autOf_acc (Df.found_whole hf) (fun x _ => backS_length (by have := g.l1; omega) f x) hw, back_via g.nd [] w hw, List.append_nil, backF, vec_get f _ (by have := g.ne; omega)]

/-! ### one formula behind another -/
end Go.Proofs.YtciopfiddfmckaaDoor.Fm

namespace Go.Proofs.YtciopfiddfmckaaDoor.Fm
open Go.Proofs.YtciopfiddfmckaaDoor.Df Go.Proofs.YtciopfiddfmckaaDoor.Sm Go.Proofs.YtciopfiddfmckaaDoor.Nf

/-- The automaton that reads from the end. -/
def backA (L : Int) (f : List Nd) (l : List (List Bool)) : Aut := autOf L (backS L f) l (backF f)
section
variable {L : Int} {f : List Nd} (g : FGood L f) {l : List (List Bool)} (hf : found (backS L f) (vec f []) = some l) {m : List (List Nat)} (hm : found (T (mir (ofA (backA L f l)))) (beg (mir (ofA (backA L f l)))) = some m)
include g hf hm
end
end Go.Proofs.YtciopfiddfmckaaDoor.Fm
