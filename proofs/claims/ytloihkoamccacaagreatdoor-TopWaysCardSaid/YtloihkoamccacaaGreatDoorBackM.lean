/- Plain mathematics of automata made of formulas: the automaton that reads from the end. Plain mathematics of automata made of formulas: the one that reads forwards, made by mirroring: it accepts just where the formula holds, and it is the smallest one (Brzozowski). -/
import Derived.Test.YtloihkoamccacaaGreatDoorFormM
import Derived.Test.YtloihkoamccacaaGreatDoorDfaM

namespace Go.Proofs.YtloihkoamccacaaGreatDoor.Fm

/-! ### the automaton that reads from the end -/
def backS (L : Int) (f : List Nd) (v : List Bool) : List (List Bool) := (List.range L.toNat).map fun (a : Nat) => nxt f v a
def backF (f : List Nd) (v : List Bool) : Bool := v.getD (f.length - 1) false
/-- What Back gives, of a formula without fault. -/
def backOut (L : Int) (f : List Nd) : Df.Aut × Nat := Df.explOut L (backS L f) (vec f []) (backF f)
theorem backS_length {L : Int} (h : 0 ≤ L) (f : List Nd) (v : List Bool) : ((backS L f v).length : Int) = L := by simp [backS]; omega
theorem backS_get {L : Int} (f : List Nd) (v : List Bool) {a : Nat} (h : (a : Int) < L) : (backS L f v)[a]? = some (nxt f v a) := by
  rw [backS, List.getElem?_map, List.getElem?_range (by omega)]; rfl
theorem back_via {L : Int} {f : List Nd} (hg : ∀ j n, f[j]? = some n → NdGood L j n) : ∀ (w v : List Int), Df.Word L v → Df.viaAll (backS L f) (vec f w) v = vec f (v.reverse ++ w)
  | w, [], _ => rfl
  | w, a :: v, h => by
    have ha := h a (by simp)
    have e : Df.via (backS L f) (vec f w) a.toNat = vec f (a :: w) := by
      unfold Df.via
      rw [backS_get f _ (by omega), Option.getD_some, show ((a.toNat : Nat) : Int) = a by omega, vec_next hg]
    show Df.viaAll (backS L f) (Df.via (backS L f) (vec f w) a.toNat) v = _
    rw [e, back_via hg (a :: w) v fun x hx => h x (by simp [hx])]
    simp
theorem back_good {L : Int} {f : List Nd} (g : FGood L f) {l : List (List Bool)} (hf : Df.found (backS L f) (vec f []) = some l) : Df.Good (Df.autOf L (backS L f) l (backF f)) :=
  Df.autOf_good (Df.found_whole hf) g.l1 g.l6 fun x _ => backS_length (by have := g.l1; omega) f x
/-- A word is judged from its end. -/
theorem back_acc {L : Int} {f : List Nd} (g : FGood L f) {l : List (List Bool)} (hf : Df.found (backS L f) (vec f []) = some l) {w : List Int} (hw : Df.Word L w) :
    Df.accA (Df.autOf L (backS L f) l (backF f)) w = vat f w.reverse (f.length - 1) 0 := by
  rw [Df.autOf_acc (Df.found_whole hf) (fun x _ => backS_length (by have := g.l1; omega) f x) hw, back_via g.nd [] w hw, List.append_nil, backF, vec_get f _ (by have := g.ne; omega)]

/-! ### one formula behind another -/
end Go.Proofs.YtloihkoamccacaaGreatDoor.Fm

namespace Go.Proofs.YtloihkoamccacaaGreatDoor.Fm
open Go.Proofs.YtloihkoamccacaaGreatDoor.Df Go.Proofs.YtloihkoamccacaaGreatDoor.Sm Go.Proofs.YtloihkoamccacaaGreatDoor.Nf

/-- The automaton that reads from the end. -/
def backA (L : Int) (f : List Nd) (l : List (List Bool)) : Aut := autOf L (backS L f) l (backF f)
theorem back_reached {L : Int} {f : List Nd} (g : FGood L f) {l : List (List Bool)} (hf : found (backS L f) (vec f []) = some l) {i : Nat} (hi : i < (backA L f l).next.length) :
    ∃ v, Word L v ∧ runA (backA L f l) (backA L f l).s.toNat v = i := by
  have hw := found_whole hf
  have h1 := g.l1
  have hn : (backA L f l).next.length = l.length := by unfold backA autOf; simp
  rw [hn] at hi
  have hm := List.getElem_mem hi
  have key : ∀ X, Rch (backS L f) (vec f []) X → ∃ v, Word L v ∧ viaAll (backS L f) (vec f []) v = X := fun X hX => by
    induction hX with
    | base => exact ⟨[], by intro a ha; simp at ha, rfl⟩
    | next _ ht ih =>
      obtain ⟨v, hv, rfl⟩ := ih
      obtain ⟨c, hc, rfl⟩ := List.mem_map.1 ht
      have hcL : (c : Int) < L := by
        have : c < L.toNat := List.mem_range.1 hc
        omega
      have hv2 : Word L (v ++ [(c : Int)]) := fun b hb => by
        rcases List.mem_append.1 hb with hb | hb
        · exact hv b hb
        · simp at hb; subst hb; exact ⟨by omega, hcL⟩
      refine ⟨v ++ [(c : Int)], hv2, ?_⟩
      rw [back_via g.nd [] _ hv2, back_via g.nd [] v hv, vec_next g.nd]
      simp
  obtain ⟨v, hv, e⟩ := key _ (hw.rch _ hm)
  obtain ⟨_, p2⟩ := autOf_run (f := backF f) hw (fun x _ => backS_length (by omega) f x) hv (List.mem_of_getElem? hw.hd)
  refine ⟨v, hv, ?_⟩
  rw [idx_of hw.nd hw.hd, e, idx_of hw.nd (List.getElem?_eq_getElem hi)] at p2
  exact p2
/-- The automaton that reads forwards. -/
def frontA (L : Int) (f : List Nd) (l : List (List Bool)) (m : List (List Nat)) : Aut := makeA (mir (ofA (backA L f l))) m
section
variable {L : Int} {f : List Nd} (g : FGood L f) {l : List (List Bool)} (hf : found (backS L f) (vec f []) = some l) {m : List (List Nat)} (hm : found (T (mir (ofA (backA L f l)))) (beg (mir (ofA (backA L f l)))) = some m)
include g hf hm
theorem front_good : Df.Good (frontA L f l m) := make_good (mir_good (of_good (back_good g hf))) hm
theorem front_back {w : List Int} (hw : Word L w) : accA (frontA L f l m) w = accA (backA L f l) w.reverse := by
  have gx : Df.Good (backA L f l) := back_good g hf
  rw [frontA, make_acc (mir_good (of_good gx)) hm (w := w) hw]
  exact mir_of_acc gx hw
/-- It accepts just where the formula holds. -/
theorem front_acc {w : List Int} (hw : Word L w) : accA (frontA L f l m) w = vat f w (f.length - 1) 0 := by
  rw [front_back g hf hm hw, backA, back_acc g hf (fun c hc => hw c (List.mem_reverse.1 hc)), List.reverse_reverse]
/-- It is the smallest one. -/
theorem front_min : minA (frontA L f l m) = frontA L f l m :=
  (make_mir (x := backA L f l) (d := frontA L f l m) (back_good g hf) (front_good g hf hm) rfl (fun _ hi => back_reached g hf hi) (fun _ hw => front_back g hf hm hw) hm).symm
/-- Any other automaton of the same words has it as its smallest one. -/
theorem front_of {d : Aut} (gd : Df.Good d) (eL : d.L = L) (h : ∀ w, Word L w → accA d w = vat f w (f.length - 1) 0) : minA d = frontA L f l m := by
  rw [← front_min g hf hm]
  refine (min_unique (a := d) (b := frontA L f l m) ⟨gd, front_good g hf hm, eL⟩ fun w hw => ?_).symm
  rw [eL] at hw
  rw [h w hw, front_acc g hf hm hw]
end
end Go.Proofs.YtloihkoamccacaaGreatDoor.Fm
