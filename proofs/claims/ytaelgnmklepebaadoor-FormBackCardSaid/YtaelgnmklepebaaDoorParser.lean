/- The walks of package form: the parser's state; skip, expect, next, add. -/
import Derived.Test.YtaelgnmklepebaaDoorFormC
import Derived.Test.YtaelgnmklepebaaDoorWrite
import Derived.PlainAid
import Derived.Deep.QuietTactic
import Derived.BigQuiet
namespace Go.Proofs.YtaelgnmklepebaaDoor.Fm
open Go.RowKit Go.IntWalk Go.PlainAid Go.Proofs.YtaelgnmklepebaaDoor.Wd Go.Proofs.YtaelgnmklepebaaDoor.Wo

def ePar (g : Nat) (l : List Value) : Ent := ⟨68, 4, .slice (some ⟨g, 0, none⟩) 1 1, 1, l⟩
theorem par_cell {w0 w : World} {g : Nat} {l : List Value} {es fs : List Ent} (h : Own w0 w (ePar g l :: es) fs) {j : Nat} {u : Value} (hj : l[j]? = some u) : w.cell? ⟨g, j, none⟩ = some u ∧ w.frozen? ⟨g, j, none⟩ = false := h.cell (List.mem_cons_self : ePar g l ∈ (ePar g l :: es) ++ fs) hj
theorem par_set {w0 w : World} {g : Nat} {l : List Value} {es fs : List Ent} (h : Own w0 w (ePar g l :: es) fs) (j : Nat) (u : Value) : Own w0 (w.setCell ⟨g, j, none⟩ u) (ePar g (l.set j u) :: es) fs := h.set j u
/-- The parser: its block g, its text, where it stands, the nodes so far. -/
def Pr (w0 : World) (g : Nat) (T : ByteArray) (L : Int) (fs : List Ent) (w : World) (k : Nat) (f : List Nd) : Prop :=
  ∃ v, Own w0 w [ePar g [.string T, .int .i64 (k : Int), v, .int .i64 L], eNodes v f] fs
theorem Pr.on {w0 w w1 : World} {g : Nat} {T : ByteArray} {L : Int} {fs : List Ent} {k : Nat} {f : List Nd} (h : Pr w0 g T L fs w k f) (hb : Below w.heap.size w w1) : Pr w0 g T L fs w1 k f := by
  obtain ⟨v, h⟩ := h
  exact ⟨v, h.on hb⟩
theorem Pr.only {w0 w : World} {g : Nat} {T : ByteArray} {L : Int} {fs : List Ent} {k : Nat} {f : List Nd} (h : Pr w0 g T L fs w k f) : Own w0 w [] fs := by
  obtain ⟨v, h⟩ := h
  exact h.only
theorem Pr.cells {w0 w : World} {g : Nat} {T : ByteArray} {L : Int} {fs : List Ent} {k : Nat} {f : List Nd} (h : Pr w0 g T L fs w k f) :
    w.cell? ⟨g, 0, none⟩ = some (.string T) ∧ w.cell? ⟨g, 1, none⟩ = some (.int .i64 (k : Int)) ∧ w.cell? ⟨g, 3, none⟩ = some (.int .i64 L) ∧ w.frozen? ⟨g, 1, none⟩ = false := by
  obtain ⟨v, h⟩ := h
  exact ⟨(par_cell (j := 0) h rfl).1, (par_cell (j := 1) h rfl).1, (par_cell (j := 3) h rfl).1, (par_cell (j := 1) h rfl).2⟩
theorem Pr.step {w0 w : World} {g : Nat} {T : ByteArray} {L : Int} {fs : List Ent} {k : Nat} {f : List Nd} (h : Pr w0 g T L fs w k f) : Pr w0 g T L fs (w.setCell ⟨g, 1, none⟩ (.int .i64 ((k : Int) + 1))) (k + 1) f := by
  obtain ⟨v, h⟩ := h
  refine ⟨v, ?_⟩
  have := par_set h 1 (.int .i64 ((k : Int) + 1))
  simpa using this
theorem data_bt {T : ByteArray} {k : Nat} {c : UInt8} (h : T.data.toList[k]? = some c) : bt T k = (c.toNat : Int) ∧ k < T.size := by
  obtain ⟨h1, h2⟩ := List.getElem?_eq_some_iff.1 h
  have h3 : k < T.size := by rw [data_len] at h1; exact h1
  refine ⟨?_, h3⟩
  unfold bt
  rw [dif_pos h3, ← h2]
  rfl
theorem u8_inj {a b : UInt8} (h : (a.toNat : Int) = (b.toNat : Int)) : a = b := UInt8.toNat_inj.1 (by exact_mod_cast h)
/-- The letter is there: it is gone past. -/
theorem skip_yes {w0 w : World} {g : Nat} {T : ByteArray} {L : Int} {fs : List Ent} {k : Nat} {f : List Nd} (h : Pr w0 g T L fs w k f) (hT : T.size ≤ 300) (c : UInt8) (x : Int) (hx : (c.toNat : Int) = x) (hc : T.data.toList[k]? = some c) :
    Calls Tryd.prog 75 #[.pointer (some ⟨g, 0, none⟩), .int .u8 x] w fun e w' => e = .returned (.bool true) ∧ Hid (Pr w0 g T L fs w' (k + 1) f) := by
  obtain ⟨hb, hk⟩ := data_bt hc
  rw [hx] at hb
  have hbt := get_bt T
  have hq : ((k : Int) == (T.size : Int)) = false := beq_eq_false_iff_ne.2 (by omega)
  have hN : Hid (Pr w0 g T L fs (w.drew.setCell ⟨g, 1, none⟩ (.int .i64 ((k : Int) + 1))) (k + 1) f) := (h.on (below_drewN (Below.refl _ _) 1)).step
  obtain ⟨c0, c1, _, z1⟩ := h.cells
  have hne : (x != x) = false := by simp
  clear h hc hx
  go_enter Tryd.func75, Tryd.ntmps75
  go_wp2_with fail
  go_region
  go_wp2
  go_ret
  exact ⟨rfl, hN⟩
theorem bt_some {T : ByteArray} {k : Nat} (h : k < T.size) : ∃ c, T.data.toList[k]? = some c ∧ bt T k = ((c : UInt8).toNat : Int) := by
  have hl : k < T.data.toList.length := by rw [data_len]; exact h
  exact ⟨T.data.toList[k], List.getElem?_eq_getElem hl, (data_bt (List.getElem?_eq_getElem hl)).1⟩
/-- It is not there. -/
theorem skip_no {w0 w : World} {g : Nat} {T : ByteArray} {L : Int} {fs : List Ent} {k : Nat} {f : List Nd} (h : Pr w0 g T L fs w k f) (hk : k ≤ T.size) (c : UInt8) (x : Int) (hx : (c.toNat : Int) = x) (hc : T.data.toList[k]? ≠ some c) :
    Calls Tryd.prog 75 #[.pointer (some ⟨g, 0, none⟩), .int .u8 x] w fun e w' => e = .returned (.bool false) ∧ Hid (Pr w0 g T L fs w' k f) := by
  have hbt := get_bt T
  have hN : Hid (Pr w0 g T L fs w.drew k f) := h.on (below_drewN (Below.refl _ _) 1)
  obtain ⟨c0, c1, _, z1⟩ := h.cells
  by_cases hks : k < T.size
  · have hq : ((k : Int) == (T.size : Int)) = false := beq_eq_false_iff_ne.2 (by omega)
    obtain ⟨d, hd, hdb⟩ := bt_some hks
    have hne : (bt T k != x) = true := by
      rw [hdb, ← hx]
      simp only [bne_iff_ne, ne_eq]
      exact fun e => hc (by rw [hd, u8_inj e])
    clear h hc hx hd hdb
    go_enter Tryd.func75, Tryd.ntmps75
    go_wp2_with fail
    go_region
    go_wp2
    go_ret
    exact ⟨rfl, hN⟩
  · obtain rfl : k = T.size := by omega
    have hq : ((T.size : Int) == (T.size : Int)) = true := beq_self_eq_true _
    clear h hc hx
    go_enter Tryd.func75, Tryd.ntmps75
    go_wp2_with fail
    go_region
    go_wp2
    go_ret
    exact ⟨rfl, hN⟩
/-- What gives up: the rows that were there stand. -/
def Gave (w0 : World) (fs : List Ent) (n : Nat) (e : Ending) (w' : World) : Prop := e = .panicked [panicOf n] ∧ Hid (Own w0 w' [] fs)
theorem expect_yes {w0 w : World} {g : Nat} {T : ByteArray} {L : Int} {fs : List Ent} {k : Nat} {f : List Nd} (h : Pr w0 g T L fs w k f) (hT : T.size ≤ 300) (c : UInt8) (x : Int) (hx : (c.toNat : Int) = x) (hc : T.data.toList[k]? = some c) :
    Calls Tryd.prog 90 #[.pointer (some ⟨g, 0, none⟩), .int .u8 x] w fun e w' => e = .returned (.tuple #[]) ∧ Hid (Pr w0 g T L fs w' (k + 1) f) := by
  have HS := Lib.hid (skip_yes h hT c x hx hc)
  clear h hc hx hT
  go_enter Tryd.func90, Tryd.ntmps90
  go_wp2_with fail
  refine HS.out.mono ?_
  rintro e w2 ⟨rfl, h2⟩
  clear HS
  go_wp2
  go_end0
  exact ⟨rfl, h2⟩
theorem expect_no {w0 w : World} {g : Nat} {T : ByteArray} {L : Int} {fs : List Ent} {k : Nat} {f : List Nd} (h : Pr w0 g T L fs w k f) (hk : k ≤ T.size) (c : UInt8) (x : Int) (hx : (c.toNat : Int) = x) (hc : T.data.toList[k]? ≠ some c) :
    Calls Tryd.prog 90 #[.pointer (some ⟨g, 0, none⟩), .int .u8 x] w (Gave w0 fs 2) := by
  have HS := Lib.hid (skip_no h hk c x hx hc)
  clear h hc hx hk
  go_enter Tryd.func90, Tryd.ntmps90
  go_wp2_with fail
  refine HS.out.mono ?_
  rintro e w2 ⟨rfl, h2⟩
  clear HS
  go_wp2
  exact ⟨rfl, rfl, h2.out.only⟩
theorem next_yes {w0 w : World} {g : Nat} {T : ByteArray} {L : Int} {fs : List Ent} {k : Nat} {f : List Nd} (h : Pr w0 g T L fs w k f) (hT : T.size ≤ 300) (c : UInt8) (x : Int) (hx : (c.toNat : Int) = x) (hc : T.data.toList[k]? = some c) :
    Calls Tryd.prog 92 #[.pointer (some ⟨g, 0, none⟩)] w fun e w' => e = .returned (.int .u8 x) ∧ Hid (Pr w0 g T L fs w' (k + 1) f) := by
  obtain ⟨hb, hk⟩ := data_bt hc
  rw [hx] at hb
  have hbt := get_bt T
  have hq : ((k : Int) == (T.size : Int)) = false := beq_eq_false_iff_ne.2 (by omega)
  obtain ⟨W2, hW2⟩ : ∃ W2, W2 = w.setCell ⟨g, 1, none⟩ (.int .i64 ((k : Int) + 1)) := ⟨_, rfl⟩
  have h2 : Pr w0 g T L fs W2 (k + 1) f := by rw [hW2]; exact h.step
  have HW2 := Lib.hid hW2
  have hN : Hid (Pr w0 g T L fs W2.drew.drew (k + 1) f) := h2.on (below_drewN (Below.refl _ _) 2)
  obtain ⟨c0, c1, _, z1⟩ := h.cells
  obtain ⟨d0, d1, _, _⟩ := h2.cells
  clear h hc hx h2 hW2
  go_enter Tryd.func92, Tryd.ntmps92
  go_wp2_with fail
  go_region
  go_wp2_with fail
  rw [← HW2.out]
  go_region
  go_wp2
  go_ret
  exact ⟨rfl, hN⟩
theorem next_no {w0 w : World} {g : Nat} {T : ByteArray} {L : Int} {fs : List Ent} {f : List Nd} (h : Pr w0 g T L fs w T.size f) :
    Calls Tryd.prog 92 #[.pointer (some ⟨g, 0, none⟩)] w (Gave w0 fs 2) := by
  have hq : ((T.size : Int) == (T.size : Int)) = true := beq_self_eq_true _
  have hN : Hid (Own w0 w.drew [] fs) := h.only.drewN 1
  obtain ⟨c0, c1, _, z1⟩ := h.cells
  clear h
  go_enter Tryd.func92, Tryd.ntmps92
  go_wp2_with fail
  go_region
  go_wp2
  exact ⟨rfl, rfl, hN⟩
end Go.Proofs.YtaelgnmklepebaaDoor.Fm
