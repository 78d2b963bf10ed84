/- Gates to which letters are offered: stilewardlaw4.gated. -/
import Derived.Test.YtciopfiddfmckaaDoorGateN
import Derived.Test.YtciopfiddfmckaaDoorDfaV
namespace Go.Proofs.YtciopfiddfmckaaDoor.Ga
open Go.RowKit Go.IntWalk Go.Proofs.YtciopfiddfmckaaDoor.Wd Go.Proofs.YtciopfiddfmckaaDoor.Wo Go.Proofs.YtciopfiddfmckaaDoor.Df Go.Proofs.YtciopfiddfmckaaDoor.Rc Go.Proofs.YtciopfiddfmckaaDoor.Sm Go.Proofs.YtciopfiddfmckaaDoor.Sa

theorem offer_len (d : Aut) (g : Gt) (a : Int) : (offer d g a).2.2.out.length ≤ g.out.length + 1 := by
  rcases offer_ways d g a with ⟨_, e⟩ | ⟨_, _, e⟩ | ⟨_, _, _, e⟩ | ⟨_, _, _, _, e⟩ | ⟨_, _, _, _, e⟩ <;> rw [e] <;> simp
theorem offers_len (d : Aut) (l : List Int) (g : Gt) : (offers d g l).out.length ≤ g.out.length + l.length := by
  induction l generalizing g with
  | nil => simp [offers]
  | cons a l ih =>
    have h1 := ih (offer d g a).2.2
    have h2 := offer_len d g a
    have e : offers d g (a :: l) = offers d (offer d g a).2.2 l := rfl
    rw [e, List.length_cons]
    omega
theorem offer_err {d : Aut} {g : Gt} {a : Int} (h : g.out.length < 80) : (offer d g a).1 = if isL d a = true then 0 else 1 := by
  rcases offer_ways d g a with ⟨h1, e⟩ | ⟨h1, _, e⟩ | ⟨h1, _, h8, e⟩ | ⟨h1, _, _, _, e⟩ | ⟨h1, _, _, _, e⟩ <;> rw [e, h1]
  · rfl
  · rfl
  · omega
  · rfl
  · rfl
theorem lets_take (d : Aut) (l : List Int) {k : Nat} (hk : k < l.length) : lets d (l.take (k + 1)) = lets d (l.take k) ++ (if isL d l[k] then [l[k]] else []) := by rw [← lets_snoc, List.take_append_getElem]
section
variable {w0 w w' : World} {g : Nat} {d : Aut} {G : Gt} {nv fv pv : Value} {rs : List (Value × List Int)} {es fs : List Ent} {e e' : Ent}
theorem GateV.front (h : GateV w0 w g d G nv fv pv rs (e :: es) fs) : Own w0 w (e :: eGate g [.int .i64 d.L, .int .i64 d.s, nv, fv, pv, .bool G.shut] :: eInts pv G.out :: es) (eRows nv (rs.map (·.1)) :: eBools fv d.fin :: (eEach rs ++ fs)) := h.own.three
theorem GateV.swap (h : GateV w0 w g d G nv fv pv rs es fs) (h2 : Own w0 w' (e' :: eGate g [.int .i64 d.L, .int .i64 d.s, nv, fv, pv, .bool G.shut] :: eInts pv G.out :: es) (eRows nv (rs.map (·.1)) :: eBools fv d.fin :: (eEach rs ++ fs))) : GateV w0 w' g d G nv fv pv rs (e' :: es) fs :=
  ⟨h.next, h.small, h.sL, h.ss, h.nil0, h2.three'⟩
theorem GateV.tail (h : GateV w0 w g d G nv fv pv rs (e :: es) fs) : GateV w0 w g d G nv fv pv rs es fs := ⟨h.next, h.small, h.sL, h.ss, h.nil0, h.own.three.tail⟩
theorem GateW.tail (h : GateW w0 w g d G (e :: es) fs) : GateW w0 w g d G es fs := by
  obtain ⟨nv, fv, pv, rs, h⟩ := h
  exact ⟨nv, fv, pv, rs, h.tail⟩
theorem GateW.with_nil (h : GateW w0 w g d G es fs) : GateW w0 w g d G (eInts (.slice none 0 0) [] :: es) fs := by
  obtain ⟨nv, fv, pv, rs, h⟩ := h
  exact ⟨nv, fv, pv, rs, h.swap (h.own.nil 3 1)⟩
theorem GateW.ints {x : Value} {l : List Int} (h : GateW w0 w g d G es fs) (hm : eInts x l ∈ es) (hs : ∀ y ∈ l, Small y) : ∃ A cap, x = .slice A l.length cap ∧ l.length ≤ cap ∧ IntsAt w w.heap.size A l := by
  obtain ⟨nv, fv, pv, rs, h⟩ := h
  obtain ⟨A, cap, e, h1, _, h2⟩ := own_ints_at h.own (v := x) (l := l) (List.mem_append_left _ (List.mem_cons_of_mem _ (List.mem_cons_of_mem _ hm))) hs
  exact ⟨A, cap, e, h1, h2⟩
theorem GateW.join {es1 fs1 : List Ent} (h : GateW w0 w g d G es fs) (h1 : Own w w' es1 fs1) : GateW w0 w' g d G (es1 ++ es) (fs1 ++ fs) := by
  obtain ⟨nv, fv, pv, rs, h⟩ := h
  exact ⟨nv, fv, pv, rs, h.join h1⟩
end
end Go.Proofs.YtciopfiddfmckaaDoor.Ga
