/- Lists of texts: slices of strings that read as lists of lists of bytes; the walk of stilewardsame's Texts: are two lists the same? -/
import Derived.Test.YtlhhhdgkdbplmaaDoorProg
import Derived.Test.YtlhhhdgkdbplmaaDoorWords
import Derived.Deep.QuietTactic
import Derived.BigQuiet
import Derived.Laws.IdiomStrings
import Derived.Lib.Hide
namespace Go.Proofs.YtlhhhdgkdbplmaaDoor.Wd
open Go.RowKit Go.IntWalk

/-- A text as a cell. -/
def tx (b : List UInt8) : Value := .string (str b)
/-- A slice of strings that reads as zs. -/
def TextsAt (w : World) (B : Nat) (a : Option Addr) (zs : List (List UInt8)) : Prop := Cells w B a (zs.map tx)
theorem TextsAt.nil (w : World) (B : Nat) (a : Option Addr) : TextsAt w B a [] := Cells.nil _ _ _
theorem TextsAt.below {w w' : World} {B : Nat} {a : Option Addr} {zs : List (List UInt8)} (h : TextsAt w B a zs) (hb : Below B w w') : TextsAt w' B a zs := Cells.below h hb
theorem TextsAt.more {w : World} {B B' : Nat} {a : Option Addr} {zs : List (List UInt8)} (h : TextsAt w B a zs) (hB : B ≤ B') : TextsAt w B' a zs := Cells.more h hB
theorem TextsAt.on {w w' : World} {a : Option Addr} {zs : List (List UInt8)} (h : TextsAt w w.heap.size a zs) (hb : Below w.heap.size w w') : TextsAt w' w'.heap.size a zs := (h.below hb).more hb.size
theorem TextsAt.at_ {w : World} {B : Nat} {a : Option Addr} {zs : List (List UInt8)} (h : TextsAt w B a zs) (k : Nat) (hk : k < zs.length) :
    ∃ ad, a = some ad ∧ ad.block < B ∧ w.cell? (ad.add k) = some (.string (str zs[k])) := by
  obtain ⟨ad, h1, h2, h3⟩ := Cells.at_ h k (by simpa using hk)
  exact ⟨ad, h1, h2, by rw [h3]; simp [tx]⟩
theorem TextsAt.take {w : World} {B : Nat} {a : Option Addr} {zs : List (List UInt8)} (h : TextsAt w B a zs) (n : Nat) : TextsAt w B a (zs.take n) := fun k u hk => by
  rw [List.map_take, List.getElem?_take] at hk
  split at hk
  · exact h k u hk
  · simp at hk

theorem textsAt_of_open {w : World} {x : Addr} {zs : List ByteArray} (hc : ∀ i : Nat, i < zs.length → w.cell? (x.add i) = some (.string (zs.getD i ByteArray.empty))) (len : Nat) :
    TextsAt w w.heap.size (some x) ((zs.take len).map fun s => s.data.toList) := by
  intro k u hk
  rw [List.getElem?_map, List.getElem?_map, List.getElem?_take] at hk
  split at hk
  · rcases hz : zs[k]? with _ | z
    · rw [hz] at hk; simp at hk
    · rw [hz] at hk
      simp only [Option.map_some, Option.some.injEq] at hk
      subst hk
      have hl := (List.getElem?_eq_some_iff.1 hz).1
      have hlt := World.block_lt_of_cell? w _ (hc k hl)
      rw [block_add] at hlt
      refine ⟨x, rfl, hlt, ?_⟩
      rw [hc k hl, List.getD_eq_getElem?_getD, hz]
      simp [tx, str_of]
  · simp at hk

/-- What a call has appended: its texts in a row of its own from block B on. -/
def Txts (B : Nat) (w0 : World) (l : List (List UInt8)) (v : Value) (w : World) : Prop :=
  w.ownsRow B 9 1 v l.length (l.map tx) ∧ Below B w0 w ∧ B ≤ w.heap.size
theorem txts_nil (w : World) : Txts w.heap.size w [] (.slice none 0 0) w := ⟨World.ownsRow_nil _ _ _ _, Below.refl _ _, Nat.le_refl _⟩
theorem txts_more {B : Nat} {w0 w w1 : World} {l : List (List UInt8)} {v v' : Value} {b : List UInt8} {o : Obj} (h : Txts B w0 l v w)
    (hown : w1.ownsRow B 9 1 v' (l.length + 1) (l.map tx ++ [tx b])) (hg : (w.alloc o).grownBy w1 v.ownBlock) : Txts B w0 (l ++ [b]) v' w1 := by
  obtain ⟨h1, h2, h3⟩ := h
  refine ⟨by simpa using hown, (h2.alloc h3 o).grown hg (by simp; omega) (fun k hk => (h1.lt k hk).1), ?_⟩
  have := hg.size
  simp at this
  omega
theorem txts_on {B : Nat} {w0 w w1 : World} {l : List (List UInt8)} {v : Value} (h : Txts B w0 l v w) (hb : Below w.heap.size w w1) : Txts B w0 l v w1 := by
  obtain ⟨⟨h1, h2⟩, h3, h4⟩ := h
  refine ⟨⟨h1, ?_⟩, h3.trans (hb.mono h4), Nat.le_trans h4 hb.size⟩
  rcases h2 with h2 | ⟨g, cap, cur, e, hB, hh, r⟩
  · exact .inl h2
  · exact .inr ⟨g, cap, cur, e, hB, by rw [hb.block g (Array.getElem?_eq_some_iff.1 hh).1]; exact hh, r⟩
theorem one_tx (b : List UInt8) : ∀ (u : Value), u ∈ [tx b] → u.oneCell' = true := by
  intro u hu
  simp at hu; subst hu; rfl
theorem one_text (w : World) (x y : Value) (t : TypeId) (h : y = x) : ∀ (j : Nat) (u : Value), [x][j]? = some u → (w.alloc (.cells #[y] t)).cell? ((⟨w.heap.size, 0, none⟩ : Addr).add j) = some u := by
  intro j u hj
  rcases j with _ | j
  · simp at hj; subst hj; subst h; simp [Addr.add]
  · simp at hj
theorem txts_at {B : Nat} {w0 w : World} {l : List (List UInt8)} {v : Value} (h : Txts B w0 l v w) :
    ∃ (A : Option Addr) (cap : Nat), v = .slice A l.length cap ∧ TextsAt w w.heap.size A l := by
  obtain ⟨h1, h2, h3⟩ := h
  obtain ⟨A, cap, hv⟩ : ∃ (A : Option Addr) (cap : Nat), v = .slice A l.length cap := by
    rcases h1.2 with ⟨e, h0⟩ | ⟨g, cap, cur, e, _⟩
    · exact ⟨none, 0, by rw [e, h0]⟩
    · exact ⟨_, cap, e⟩
  subst hv
  exact ⟨A, cap, rfl, Cells.own h1⟩
theorem infoS : (Tryd.prog.info? 9).map (fun i => (i.zero, i.size, i.bytes)) = some (some (.string ByteArray.empty), 1, 16) := by kernel_rfl

theorem takeT_step {x y : List (List UInt8)} {k : Nat} (h : x.take k = y.take k) (hx : k < x.length) (hy : k < y.length) (he : x[k] = y[k]) : x.take (k + 1) = y.take (k + 1) := by
  rw [← List.take_append_getElem hx, ← List.take_append_getElem hy, h, he]
theorem neT_at {x y : List (List UInt8)} {k : Nat} (hx : k < x.length) (hy : k < y.length) (he : ¬ x[k] = y[k]) : x ≠ y := by
  rintro rfl; exact he rfl
theorem drewN_none (w : World) : w.drewN 0 = w := rfl

end Go.Proofs.YtlhhhdgkdbplmaaDoor.Wd
