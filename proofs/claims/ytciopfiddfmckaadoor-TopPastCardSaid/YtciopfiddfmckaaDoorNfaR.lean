/- Automata in many states that a call makes: structs, rows of moves. The walks of package nfa's Mirror and Of. The walk of package nfa's Of. -/
import Derived.Test.YtciopfiddfmckaaDoorNfaS
import Derived.Test.YtciopfiddfmckaaDoorDfaP
import Derived.Test.YtciopfiddfmckaaDoorRegL
import Derived.Handy
import Derived.Deep.Light
import Derived.Test.YtciopfiddfmckaaDoorDfaW

namespace Go.Proofs.YtciopfiddfmckaaDoor.Nf
open Go.RowKit Go.IntWalk Go.Proofs.YtciopfiddfmckaaDoor.Wd Go.Proofs.YtciopfiddfmckaaDoor.Wo Go.Proofs.YtciopfiddfmckaaDoor.Df

/-! ### the struct, in a block of its own -/
abbrev zero5 : List Value := [.int .i64 0, .int .i64 0, .slice none 0 0, .slice none 0 0, .slice none 0 0]
/-! ### rows of moves -/
theorem good_mvsmall {a : Nfa} (g : Good a) : ∀ m ∈ a.mv, MvSmall m := fun m hm => by
  have h := g.mv m hm
  have := g.n40; have := g.l6
  obtain ⟨⟨h1, h2⟩, ⟨h3, h4⟩, h5, h6⟩ := h
  exact ⟨⟨by omega, by omega⟩, ⟨by omega, by omega⟩, ⟨by omega, by omega⟩⟩
theorem good_st {a : Nfa} (g : Good a) : ∀ x ∈ a.st, Small x := fun x hx => by
  have h := g.st x hx
  have := g.n40
  exact ⟨by have := h.1; omega, by have := h.2; omega⟩
theorem good_fin {a : Nfa} (g : Good a) : ∀ x ∈ a.fin, Small x := fun x hx => by
  have h := g.fin x hx
  have := g.n40
  exact ⟨by have := h.1; omega, by have := h.2; omega⟩
theorem good_nL {a : Nfa} (g : Good a) : Small a.L ∧ Small a.n := ⟨⟨by have := g.l1; omega, by have := g.l6; omega⟩, ⟨by have := g.n1; omega, by have := g.n40; omega⟩⟩

/-! ### slices.Clone of any slice of ints -/
set_option maxRecDepth 100000 in
theorem clone_all (A : Option Addr) (c : Nat) (l : List Int) (w : World) (hA : IntsAt w w.heap.size A l) (hl : l.length ≤ 17592186044416) :
    Calls Tryd.prog 40 #[.slice A l.length c] w fun e w' => Hid (∃ v', e = .returned v' ∧ Own w w' [eInts v' l] []) := by
  rcases A with _ | ad
  · have hl0 := hA.none_nil
    subst hl0
    clear hA hl
    have hnil : ∀ W, (binOp .eql 38 (.slice none 0 c) (.slice none 0 0)).run Tryd.prog W = .ok (.bool true) W := fun W => Lib.run_eql_slice_nil W _ _ _ _ _ _ _ Tryd.underlying38
    have HO : Hid (Own w w [eInts (.slice none 0 0) []] []) := (own_start w).nil 3 1
    show Calls Tryd.prog _ #[.slice none 0 c] w _
    go_enter Tryd.func40, Tryd.ntmps40
    go_wp2
    go_ret
    exact ⟨_, rfl, HO.out⟩
  · have HA := Lib.hid hA
    clear hA
    have HN := Lib.hid (Own.to_nums (l := []) (v := .slice (some ⟨w.heap.size, 0, none⟩) 0 0) (Own.lit (own_start w) 3 1 0 #[] rfl (by simp [maxLen])))
    have hnil : ∀ W, (binOp .eql 38 (.slice (some ad) l.length c) (.slice none 0 0)).run Tryd.prog W = .ok (.bool false) W := fun W => Lib.run_eql_slice_nil W _ _ _ _ _ _ _ Tryd.underlying38
    go_enter Tryd.func40, Tryd.ntmps40
    go_wp2_with (at_builtin; refine app_ints (acc := []) rfl _ _ rfl rfl HN.out rfl (HA.out.on (below_alloc _ _)) (by simpa using hl) ?_)
    intro v' w2 hn
    have HO2 : Hid (Own w w2 [eInts v' l] []) := Own.of_nums (by simpa using hn)
    clear hn HN
    go_wp2
    go_ret
    exact ⟨_, rfl, HO2.out⟩
end Go.Proofs.YtciopfiddfmckaaDoor.Nf

namespace Go.Proofs.YtciopfiddfmckaaDoor.Wd
open Go.RowKit Go.IntWalk
end Go.Proofs.YtciopfiddfmckaaDoor.Wd
namespace Go.Proofs.YtciopfiddfmckaaDoor.Nf
open Go.RowKit Go.IntWalk Go.Proofs.YtciopfiddfmckaaDoor.Wd Go.Proofs.YtciopfiddfmckaaDoor.Wo Go.Proofs.YtciopfiddfmckaaDoor.Df

def mirOut (a : Nfa) : Nfa × Nat := if nchk a = 0 then (mir a, 0) else (zeroN, nchk a)
theorem mirOut_ok {a : Nfa} (h : nchk a = 0) : mirOut a = (mir a, 0) := if_pos h
theorem mirOut_bad {a : Nfa} (h : nchk a ≠ 0) : mirOut a = (zeroN, nchk a) := if_neg h
end Go.Proofs.YtciopfiddfmckaaDoor.Nf

namespace Go.Proofs.YtciopfiddfmckaaDoor.Nf
open Go.RowKit Go.IntWalk Go.Proofs.YtciopfiddfmckaaDoor.Wd Go.Proofs.YtciopfiddfmckaaDoor.Wo Go.Proofs.YtciopfiddfmckaaDoor.Df

end Go.Proofs.YtciopfiddfmckaaDoor.Nf
