/- The walks of package nfa: sets as numbers, Accepts. -/
import Derived.Test.YtdkbdoogjehkfaaDoorNfaW
namespace Go.Proofs.YtdkbdoogjehkfaaDoor.Nf
open Go.RowKit Go.IntWalk Go.Proofs.YtdkbdoogjehkfaaDoor.Wd Go.Proofs.YtdkbdoogjehkfaaDoor.Wo Go.Proofs.YtdkbdoogjehkfaaDoor.Df

theorem or_pow {z s : Nat} (hz : z < 1099511627776) (hs : s < 40) : Go.bits .or .u64 (z : Int) (IntKind.u64.wrap ((2 : Int) ^ s)) = ((z ||| 2 ^ s : Nat) : Int) := by
  have hp := pow_lt hs
  have e : IntKind.u64.wrap ((2 : Int) ^ s) = ((2 ^ s : Nat) : Int) := by
    rw [IntKind.wrap_u64, show ((2 : Int) ^ s) = ((2 ^ s : Nat) : Int) by push_cast; rfl]
    generalize (2 : Nat) ^ s = p at *
    omega
  rw [e]
  exact bits_or_u64_nat _ _ (by omega) (by omega)
theorem shr_bit {X : List Nat} (hX : ∀ t ∈ X, t < 40) (s : Nat) : (Go.bits .and .u64 (((enc X : Nat) : Int) / 2 ^ s) 1 == 1) = decide (s ∈ X) := by
  have h := enc_lt hX
  have e : (((enc X : Nat) : Int) / 2 ^ s) = ((enc X / 2 ^ s : Nat) : Int) := by rw [Int.natCast_ediv, Int.natCast_pow]; rfl
  have hd : enc X / 2 ^ s ≤ enc X := Nat.div_le_self _ _
  have e1 : (1 : Int) = ((1 : Nat) : Int) := rfl
  rw [e, e1, bits_and_u64_nat _ _ (by omega) (by omega), Nat.and_one_is_mod, enc_shift]
  by_cases hs : s ∈ X <;> simp [hs]
/-! ### moved -/
def toK (a : Nfa) (X : List Nat) (c : Int) (k : Nat) : List Nat := ((a.mv.take k).filter fun m => decide (m.2.1 = c) && decide (m.1.toNat ∈ X)).map fun m => m.2.2.toNat
theorem toK_all {a : Nfa} {X : List Nat} {c : Int} {k : Nat} (h : a.mv.length ≤ k) : toK a X c k = to a X c := by unfold toK to; rw [List.take_of_length_le h]
theorem toK_hit {a : Nfa} {X : List Nat} {c : Int} {k : Nat} (h : k < a.mv.length) (h1 : a.mv[k].2.1 = c) (h2 : a.mv[k].1.toNat ∈ X) : toK a X c (k + 1) = toK a X c k ++ [a.mv[k].2.2.toNat] := by
  unfold toK
  rw [← List.take_append_getElem h, List.filter_append, List.map_append]
  simp [h1, h2]
theorem toK_miss {a : Nfa} {X : List Nat} {c : Int} {k : Nat} (h : k < a.mv.length) (h1 : ¬ (a.mv[k].2.1 = c ∧ a.mv[k].1.toNat ∈ X)) : toK a X c (k + 1) = toK a X c k := by
  unfold toK
  rw [← List.take_append_getElem h, List.filter_append, List.map_append]
  have : ([a.mv[k]].filter fun m => decide (m.2.1 = c) && decide (m.1.toNat ∈ X)) = [] := by
    rw [List.filter_cons, if_neg (by simpa using h1)]; rfl
  rw [this]; simp
theorem toK_lt {a : Nfa} (g : Good a) {X : List Nat} {c : Int} {k : Nat} : ∀ t ∈ toK a X c k, t < 40 := fun t ht => by
  obtain ⟨m, hm, rfl⟩ := List.mem_map.1 ht
  have := (g.mv m (List.mem_of_mem_take (List.mem_filter.1 hm).1)).2.1
  have h1 := this.1; have h2 := this.2; have := g.n40
  omega
/-! ### closed, first, next -/
theorem box_agg {w : World} {g : Nat} {L n : Int} {A M F : Option Addr} {k c km cm kf cf : Nat} (h : BoxN w g L n A k c M km cm F kf cf) :
    w.cell? ⟨g, 0, none⟩ = some (.int .i64 L) ∧ w.cell? ⟨g, 1, none⟩ = some (.int .i64 n) ∧ w.cell? ⟨g, 2, none⟩ = some (.slice A k c) ∧ w.cell? ⟨g, 3, none⟩ = some (.slice M km cm) ∧ w.cell? ⟨g, 4, none⟩ = some (.slice F kf cf) := ⟨h.c0, h.c1, h.c2, h.c3, h.c4⟩
theorem st40 {a : Nfa} (g : Good a) : ∀ x ∈ a.st, 0 ≤ x ∧ x < 40 := fun x hx => by
  have h1 := g.st x hx
  have := g.n40
  exact ⟨h1.1, by have := h1.2; omega⟩
theorem fin40 {a : Nfa} (g : Good a) : ∀ x ∈ a.fin, 0 ≤ x ∧ x < 40 := fun x hx => by
  have h1 := g.fin x hx
  have := g.n40
  exact ⟨h1.1, by have := h1.2; omega⟩
/-! ### Accepts -/
def naErr (a : Nfa) (z : List Int) : Nat := if nchk a ≠ 0 then nchk a else chk a.L z
def naOut (a : Nfa) (z : List Int) : Bool := if naErr a z = 0 then accN a z else false
theorem naErr_zero {a : Nfa} {z : List Int} : naErr a z = 0 ↔ Good a ∧ Fine a.L z := by
  unfold naErr
  constructor
  · intro h
    by_cases g : nchk a = 0
    · rw [if_neg (by omega)] at h
      exact ⟨nchk_iff.1 g, chk_iff.1 h⟩
    · rw [if_pos g] at h; exact absurd h g
  · rintro ⟨g, f⟩
    have := nchk_iff.2 g
    rw [if_neg (by omega)]
    exact chk_iff.2 f
theorem naOut_ok {a : Nfa} {z : List Int} (g : Good a) (f : Fine a.L z) : naOut a z = accN a z := by unfold naOut; rw [if_pos (naErr_zero.2 ⟨g, f⟩)]
theorem naOut_bad {a : Nfa} {z : List Int} (h : naErr a z ≠ 0) : naOut a z = false := by unfold naOut; rw [if_neg h]
theorem runN_lt {a : Nfa} {w : List Int} : ∀ {X : List Nat}, (∀ t ∈ X, t < a.n.toNat) → ∀ t ∈ runN a X w, t < a.n.toNat := by
  induction w with
  | nil => intro X h; exact h
  | cons c w ih => intro X h; exact ih (X := goN a X c) fun t ht => clo_lt ht
theorem runN_take {a : Nfa} {X : List Nat} {z : List Int} {k : Nat} (h : k < z.length) : runN a X (z.take (k + 1)) = goN a (runN a X (z.take k)) z[k] := by
  unfold runN
  rw [← List.take_append_getElem h, List.foldl_append]; rfl
theorem beg_lt {a : Nfa} : ∀ t ∈ beg a, t < a.n.toNat := fun _ ht => clo_lt ht
end Go.Proofs.YtdkbdoogjehkfaaDoor.Nf
