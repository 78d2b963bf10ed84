/- Words of memory and strings that all walks of this seat share: a slice that reads as a list, a string made of a list of bytes. -/
import Derived.WalkKit
import Derived.OpenShut
import Derived.Lib.Hide
import Derived.Deep.Draws
namespace Go.Proofs.YtbciefeipiphiaaDoor.Wd
open Go.RowKit

/-! ### strings -/
/-- A list of bytes as a string; a plain name, so that no walk lays it open. -/
def str (l : List UInt8) : ByteArray := ⟨l.toArray⟩
/-! ### slices that read as lists -/
/-- The cells behind a slice's address, all below block B. -/
def Cells (w : World) (B : Nat) (a : Option Addr) (xs : List Value) : Prop :=
  ∀ k u, xs[k]? = some u → ∃ ad, a = some ad ∧ ad.block < B ∧ w.cell? (ad.add k) = some u
theorem block_add (a : Addr) (n : Nat) : (a.add n).block = a.block := by unfold Addr.add; split <;> rfl
theorem Cells.nil (w : World) (B : Nat) (a : Option Addr) : Cells w B a [] := fun k u h => by simp at h
theorem Cells.below {w w' : World} {B : Nat} {a : Option Addr} {xs : List Value} (h : Cells w B a xs) (hb : Below B w w') : Cells w' B a xs := fun k u hk => by
  obtain ⟨ad, e, h1, h2⟩ := h k u hk
  exact ⟨ad, e, h1, (hb.cell (by rw [block_add]; exact h1)).trans h2⟩
theorem below_drewN {B : Nat} {a w : World} (h : Below B a w) (n : Nat) : Below B a (w.drewN n) := h.trans ⟨rfl, rfl, rfl, Nat.le_refl _, fun _ _ => rfl⟩
theorem Cells.more {w : World} {B B' : Nat} {a : Option Addr} {xs : List Value} (h : Cells w B a xs) (hB : B ≤ B') : Cells w B' a xs := fun k u hk => by
  obtain ⟨ad, e, h1, h2⟩ := h k u hk
  exact ⟨ad, e, by omega, h2⟩
theorem Cells.at_ {w : World} {B : Nat} {a : Option Addr} {xs : List Value} (h : Cells w B a xs) (k : Nat) (hk : k < xs.length) : ∃ ad, a = some ad ∧ ad.block < B ∧ w.cell? (ad.add k) = some xs[k] :=
  h k _ (List.getElem?_eq_getElem hk)
/-- What a call owns reads as it stands. -/
theorem Cells.own {w : World} {base n size cap : Nat} {e : TypeId} {a : Option Addr} {xs : List Value} (h : w.ownsRow base e size (.slice a n cap) n xs) : Cells w w.heap.size a xs := fun k u hk => by
  rcases a with _ | ad
  · rcases h.2 with ⟨_, h0⟩ | ⟨g, c, cur, hv, _⟩
    · have : xs = [] := List.eq_nil_of_length_eq_zero (by rw [h.1, h0, Nat.zero_mul])
      subst this; simp at hk
    · simp at hv
  · have hl := h.lt ad.block rfl
    have hc := h.cells (g := ad.block) rfl k u hk
    rcases h.2 with ⟨hv, _⟩ | ⟨g, c, cur, hv, _⟩
    · simp at hv
    · simp only [Value.slice.injEq, Option.some.injEq] at hv
      obtain ⟨rfl, _, _⟩ := hv
      exact ⟨_, rfl, hl.2, hc⟩

def i64 (z : Int) : Value := .int .i64 z
def Small (z : Int) : Prop := -9223372036854775808 ≤ z ∧ z ≤ 9223372036854775807
/-- A slice of ints that reads as zs. -/
def IntsAt (w : World) (B : Nat) (a : Option Addr) (zs : List Int) : Prop := Cells w B a (zs.map i64) ∧ ∀ z ∈ zs, Small z
theorem IntsAt.nil (w : World) (B : Nat) (a : Option Addr) : IntsAt w B a [] := ⟨Cells.nil _ _ _, by simp⟩
theorem IntsAt.below {w w' : World} {B : Nat} {a : Option Addr} {zs : List Int} (h : IntsAt w B a zs) (hb : Below B w w') : IntsAt w' B a zs := ⟨h.1.below hb, h.2⟩
theorem IntsAt.more {w : World} {B B' : Nat} {a : Option Addr} {zs : List Int} (h : IntsAt w B a zs) (hB : B ≤ B') : IntsAt w B' a zs := ⟨h.1.more hB, h.2⟩
theorem IntsAt.at_ {w : World} {B : Nat} {a : Option Addr} {zs : List Int} (h : IntsAt w B a zs) (k : Nat) (hk : k < zs.length) :
    ∃ ad, a = some ad ∧ ad.block < B ∧ w.cell? (ad.add k) = some (.int .i64 zs[k]) ∧ Small zs[k] := by
  obtain ⟨ad, e, h1, h2⟩ := h.1 k (i64 zs[k]) (by rw [List.getElem?_map, List.getElem?_eq_getElem hk]; rfl)
  exact ⟨ad, e, h1, h2, h.2 _ (List.getElem_mem hk)⟩
theorem intsAt_of_open {w : World} {x : Addr} {zs : List Int} (hc : ∀ i : Nat, i < zs.length → w.cell? (x.add i) = some (.int .i64 (zs.getD i 0))) (hw : ∀ n ∈ zs, (Lit.int .i64 n).wf = true) (len : Nat) :
    IntsAt w w.heap.size (some x) (zs.take len) := by
  refine ⟨fun k u hk => ?_, fun z hz => bounds_i64 (hw z (List.mem_of_mem_take hz))⟩
  rw [List.getElem?_map, List.getElem?_take] at hk
  split at hk
  · rcases hz : zs[k]? with _ | z
    · rw [hz] at hk; simp at hk
    · rw [hz] at hk
      simp only [Option.map_some, Option.some.injEq] at hk
      subst hk
      have hl := (List.getElem?_eq_some_iff.1 hz).1
      have hlt := World.block_lt_of_cell? w _ (hc k hl)
      rw [block_add] at hlt
      refine ⟨x, rfl, hlt, ?_⟩
      rw [hc k hl, List.getD_eq_getElem?_getD, hz]
      rfl
  · simp at hk
theorem IntsAt.on {w w' : World} {a : Option Addr} {zs : List Int} (h : IntsAt w w.heap.size a zs) (hb : Below w.heap.size w w') : IntsAt w' w'.heap.size a zs := (h.below hb).more hb.size

/-! ### errors -/
/-- An error's number as a value. -/
def errV : Nat → Value
  | 0 => .nilIface
  | e + 1 => .iface 58 (.int .i64 ((e + 1 : Nat) : Int))
end Go.Proofs.YtbciefeipiphiaaDoor.Wd
