/- slices.Sort of a row of ints that a call owns, by the library's contract. -/
import Derived.Test.YtblkaegnnokedaaDoorDfaP
import Derived.Shelf.Sort.Plain
import Derived.Sort.OwnSortedInts
namespace Go.Proofs.YtblkaegnnokedaaDoor.Wd
open Go.RowKit Go.IntWalk Go.Shelf Go.Sort

/-- The contract's numbers of types and functions, as this program has them. -/
def sortRen : Ren := ⟨fun | 189 => 41 | 125 => 50 | 257 => 49 | 128 => 64 | 129 => 65 | 294 => 55 | 295 => 56 | 296 => 57 | 297 => 58 | 298 => 59 | 299 => 60 | 216 => 61 | 300 => 62 | 301 => 63 | 328 => 69 | 329 => 70 | 330 => 71 | 331 => 72 | 332 => 73 | 215 => 74 | _ => 75,
  fun | 28 => 26 | 3 => 3 | 46 => 78 | 0 => 0 | 51 => 102 | 53 => 104 | 4 => 4 | 183 => 94 | 182 => 93 | 131 => 99 | 5 => 5 | 9 => 9 | 218 => 119 | 222 => 123 | 228 => 125 | _ => 126, fun x => x⟩
set_option maxRecDepth 100000 in
theorem sort_laid : Lays.n189 Tryd.prog sortRen := by
  constructor <;> first | kernel_rfl | (intro w; kernel_rfl)
/-- A sorted list. -/
def srt (l : List Int) : List Int := l.mergeSort fun x y => decide (x ≤ y)
theorem srt_length (l : List Int) : (srt l).length = l.length := List.length_mergeSort _
theorem sort_own {w0 w : World} {v : Value} {l : List Int} {es fs : List Ent} (h : Own w0 w (eInts v l :: es) fs) (h0 : l ≠ []) (hl : l.length ≤ 1048576) :
    Calls Tryd.prog 41 #[v] w fun e w' => e = .returned (.tuple #[]) ∧ Hid (Own w0 w' (eInts v (srt l) :: es) fs) := by
  have h1 := h.each _ List.mem_cons_self
  obtain ⟨a1, a2⟩ := List.pairwise_cons.1 h.apart
  have hlen : l.length ≠ 0 := fun k => h0 (List.eq_nil_of_length_eq_zero k)
  rcases h1.2 with ⟨_, k0⟩ | ⟨g, cap, cur, hv, hB, hh, k1, k2, k3, k4⟩
  · exact absurd k0 hlen
  simp only [eInts] at hv hB hh k1 k2 k3 k4
  subst hv
  have k4' : cur.toList.take l.length = l.map (Value.int .i64) := by rw [Nat.mul_one] at k4; exact k4
  have hg : g < w.heap.size := (Array.getElem?_eq_some_iff.1 hh).1
  refine (Any.slices_Sort_int sort_laid g 0 cap l w (holds_of_blockI hh k4') hg (by omega)).mono fun e w' ⟨he, n, os, hw⟩ => ⟨he, ?_⟩
  subst hw
  have hgr := grownBy_sortedI (w := w) (g := g) (n := n) (os := os) (srt l).toArray
  have hown := ownsRow_sortedI (w := w) (base := w0.heap.size) (g := g) (cap := cap) (n := n) (e := 3) (os := os) (cur := cur) (ss := l) (ts := srt l) (srt_length l) hB hh k1 k2 k3
  have keep : ∀ e : Ent, far (eInts (.slice (some ⟨g, 0, none⟩) l.length cap) l) e → w.ownsRow w0.heap.size e.t e.sz e.v e.n e.xs → (grow (putRow (Value.int .i64) (Sort.ahead w n) g 0 (srt l).toArray) os).ownsRow w0.heap.size e.t e.sz e.v e.n e.xs := fun e hf ho => by
    refine ho.kept hgr ?_
    rcases far_symm hf with hf | hf
    · exact .inl hf
    · exact .inr hf
  refine ⟨h.below.grown hgr h.below.size (fun k hk => by obtain rfl := Option.some.inj hk; exact hB), fun e he => ?_, fun e he => ?_, List.pairwise_cons.2 ⟨a1, a2⟩, fun e he f hf => ?_⟩
  · rcases List.mem_cons.1 he with rfl | he
    · unfold eInts
      rw [srt_length]
      exact hown
    · exact keep e (a1 e he) (h.each e (List.mem_cons_of_mem _ he))
  · exact keep e (h.off _ List.mem_cons_self e he) (h.done e he)
  · rcases List.mem_cons.1 he with rfl | he
    · exact h.off _ List.mem_cons_self f hf
    · exact h.off e (List.mem_cons_of_mem _ he) f hf
end Go.Proofs.YtblkaegnnokedaaDoor.Wd
