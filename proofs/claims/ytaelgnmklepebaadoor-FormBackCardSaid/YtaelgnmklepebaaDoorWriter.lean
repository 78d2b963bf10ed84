/- The walks of package form: the writer: a strings.Builder at the head of a struct; sign, rest, node. -/
import Derived.Test.YtaelgnmklepebaaDoorFormC
import Derived.Lib.Builder
import Derived.Lib.UnsafeStr
import Derived.Laws.Externs
import Derived.WalkLawsBesides
namespace Go.Proofs.YtaelgnmklepebaaDoor.Fm
open Go.RowKit Go.IntWalk Go.Proofs.YtaelgnmklepebaaDoor.Wd Go.Proofs.YtaelgnmklepebaaDoor.Wo

def byt (c : UInt8) : Value := .int .u8 (c.toNat : Int)
def eBuf (v : Value) (l : List UInt8) : Ent := ⟨5, 1, v, l.length, l.map byt⟩
def eWr (g : Nat) (l : List Value) : Ent := ⟨56, 3, .slice (some ⟨g, 0, none⟩) 1 1, 1, l⟩
theorem infoByt : (Tryd.prog.info? 5).map (fun i => (i.zero, i.size, i.bytes)) = some (some (.int .u8 0), 1, 1) := by kernel_rfl
/-- The writer: its block g, what it has written. -/
def Wr (w0 w : World) (g : Nat) (nv : Value) (fs : List Ent) (l : List UInt8) : Prop :=
  ∃ p v, (p = .pointer none ∨ p = .pointer (some ⟨g, 0, none⟩)) ∧ Own w0 w [eWr g [p, v, nv], eBuf v l] fs
theorem wr_heap {w0 w : World} {g : Nat} {l : List Value} {es fs : List Ent} (h : Own w0 w (eWr g l :: es) fs) : ∃ cur, w.heap[g]? = some (.cells cur 56 (0, 0)) ∧ cur.size = 3 ∧ w0.heap.size ≤ g := by
  rcases (h.each _ List.mem_cons_self).2 with ⟨e, _⟩ | ⟨g2, cap, cur, e, hB, hh, k1, k2, k3, k4⟩
  · simp [eWr] at e
  · simp only [eWr, Value.slice.injEq, Option.some.injEq, Addr.mk.injEq] at e
    obtain ⟨⟨rfl, _⟩, _, rfl⟩ := e
    exact ⟨cur, hh, by simpa [eWr] using k3, hB⟩
theorem wr_shape {w0 w : World} {g : Nat} {l : List Value} {es fs : List Ent} (h : Own w0 w (eWr g l :: es) fs) : w.shape? g = some (56, 3) := by
  obtain ⟨cur, h1, h2, _⟩ := wr_heap h
  simp [World.shape?, h1, h2]
theorem wr_cell {w0 w : World} {g : Nat} {l : List Value} {es fs : List Ent} (h : Own w0 w (eWr g l :: es) fs) {j : Nat} {u : Value} (hj : l[j]? = some u) : w.cell? ⟨g, j, none⟩ = some u ∧ w.frozen? ⟨g, j, none⟩ = false := h.cell (List.mem_cons_self : eWr g l ∈ (eWr g l :: es) ++ fs) hj
theorem wr_set {w0 w : World} {g : Nat} {l : List Value} {es fs : List Ent} (h : Own w0 w (eWr g l :: es) fs) (j : Nat) (u : Value) : Own w0 (w.setCell ⟨g, j, none⟩ u) (eWr g (l.set j u) :: es) fs := h.set j u
set_option maxRecDepth 100000 in
theorem copyCheck_any {w0 w : World} {g : Nat} {p v nv : Value} {es fs : List Ent} (hp : p = .pointer none ∨ p = .pointer (some ⟨g, 0, none⟩)) (h : Own w0 w (eWr g [p, v, nv] :: es) fs) :
    Calls Tryd.prog 69 #[.pointer (some ⟨g, 0, none⟩)] w fun e w' => e = .returned (.tuple #[]) ∧ Hid (Own w0 w' (eWr g [.pointer (some ⟨g, 0, none⟩), v, nv] :: es) fs) := by
  have h0 := wr_cell (j := 0) h rfl
  have hc0 := h0.1
  have hz0 := h0.2
  rcases hp with rfl | rfl
  · have HN := Lib.hid (wr_set h 0 (.pointer (some ⟨g, 0, none⟩)))
    have hsh := wr_shape h
    obtain ⟨j, hj, hjs⟩ := Option.map_eq_some_iff.1 (show (Tryd.prog.info? 54).map (·.size) = some 2 by kernel_rfl)
    have hl : liesAt Tryd.prog Tryd.prog.depth 56 (3 / Tryd.prog.cellsOf 56) 0 54 1 = true := by kernel_rfl
    clear h h0
    go_enter Tryd.func69, Tryd.ntmps69
    go_wp2
    rw [Lib.run_to_unsafe w ⟨g, 0, none⟩ Tryd.underlying51 Tryd.underlying107 hj (by rw [hjs]; decide) hsh (Nat.zero_lt_succ 2)]
    simp only [Result.andThen]
    rw [Oper.upon_value]
    go_wp2
    rw [run_callFunc_extern Tryd.func81 (by kernel_rfl) (by kernel_rfl) (by kernel_rfl) (e := Extern.AbiNoEscape.same) (by kernel_rfl)]
    rw [Lib.run_noEscape]
    simp only [Result.andThen]
    rw [Oper.upon_value]
    go_wp2
    rw [Lib.run_from_unsafe w ⟨g, 0, none⟩ Tryd.underlying107 Tryd.underlying51 hj hsh hl]
    simp only [Result.andThen]
    rw [Oper.upon_value]
    go_wp2
    go_end0
    exact ⟨rfl, HN.out⟩
  · have HN := Lib.hid h
    obtain ⟨j, hj, _⟩ := Option.map_eq_some_iff.1 (show (Tryd.prog.info? 54).map (·.size) = some 2 by kernel_rfl)
    clear h h0
    go_enter Tryd.func69, Tryd.ntmps69
    go_wp2
    rw [Lib.run_neq_ptr_same w _ Tryd.underlying51 hj]
    go_wp2
    go_end0
    exact ⟨rfl, HN.out⟩
theorem own_byte {w0 w : World} {ops : Array Oper} {rest : List Oper} {o : Oper} {a : Act} {Q : Exit → Act → World → Prop} (hgd : o.guard = none) (s x : Operand)
    (ho : o.op = .call { callee := .builtin .append, args := #[s, x], argTypes := #[52, 52] })
    {v : Value} {l : List UInt8} {es fs : List Ent} (hs : a.eval s = v) (h : Own w0 w (eBuf v l :: es) fs) {c : UInt8} {t' : TypeId} (hx : a.eval x = .slice (some ⟨w.heap.size, 0, none⟩) 1 1) (hb : l.length < 17592186044416)
    (hK : ∀ g cap w', Own w0 w' (eBuf (.slice (some ⟨g, 0, none⟩) (l.length + 1) cap) (l ++ [c]) :: es) fs → wpList Tryd.prog ops Q rest (a.put o.dst (.slice (some ⟨g, 0, none⟩) (l.length + 1) cap)) w') :
    wpList Tryd.prog ops Q (o :: rest) a (w.alloc (.cells #[.int .u8 (c.toNat : Int)] t')) := by
  refine own_append_lit hgd s x _ ho Tryd.underlying52 infoByt rfl (by decide) hs h hx rfl (fun u hu => by simp at hu; subst hu; rfl) (by omega) (by unfold maxLen; omega) (by omega) ?_
  intro g cap w' ho
  refine hK g cap w' ?_
  unfold eBuf
  simpa [byt] using ho
theorem buf_form {w0 w : World} {es fs : List Ent} {v : Value} {l : List UInt8} (h : Own w0 w es fs) (he : eBuf v l ∈ es ++ fs) : ∃ A cap, v = .slice A l.length cap ∧ l.length ≤ cap ∧ cap ≤ 9223372036854775807 := by
  obtain ⟨A, cap, hv, h1, h2, _⟩ := h.form he
  simp only [eBuf] at hv h1
  subst hv
  unfold maxLen at h2
  exact ⟨A, cap, rfl, h1, h2⟩
set_option maxRecDepth 100000 in
theorem len_any {w0 w : World} {g : Nat} {nv : Value} {fs : List Ent} {l : List UInt8} (h : Wr w0 w g nv fs l) :
    Calls Tryd.prog 56 #[.pointer (some ⟨g, 0, none⟩)] w fun e w' => e = .returned (.int .i64 l.length) ∧ w' = w := by
  obtain ⟨p, v, hp, h⟩ := h
  obtain ⟨A, cap, rfl, h1, h2⟩ := buf_form h (v := v) (l := l) (by simp)
  have hc1 := (wr_cell (j := 1) h rfl).1
  clear h hp
  go_enter Tryd.func56, Tryd.ntmps56
  go_wp2
  go_ret
  exact ⟨rfl, rfl⟩
set_option maxRecDepth 100000 in
set_option maxHeartbeats 1000000 in
theorem writeByte_any {w0 w : World} {g : Nat} {nv : Value} {fs : List Ent} {l : List UInt8} (h : Wr w0 w g nv fs l) (c : UInt8) (hl : l.length ≤ 1000000) :
    Calls Tryd.prog 57 #[.pointer (some ⟨g, 0, none⟩), .int .u8 (c.toNat : Int)] w fun e w' => e = .returned .nilIface ∧ Hid (Wr w0 w' g nv fs (l ++ [c])) := by
  obtain ⟨p, v, hp, h⟩ := h
  have HC := Lib.hid (copyCheck_any hp h)
  clear h hp
  go_enter Tryd.func57, Tryd.ntmps57
  go_wp2_with fail
  refine HC.out.mono ?_
  rintro e w2 ⟨rfl, HO⟩
  clear HC
  obtain ⟨A, cap, rfl, h1, h2⟩ := buf_form HO.out (v := v) (l := l) (by simp)
  have hc1 := (wr_cell (j := 1) HO.out rfl).1
  go_wp2_with (at_builtin; refine own_byte rfl _ _ rfl rfl HO.out.two rfl (by omega) ?_)
  intro g2 cap2 w3 ho
  have H3 := Lib.hid ho.two
  have hz1 := (wr_cell (j := 1) H3.out rfl).2
  have h31 := (wr_cell (j := 1) H3.out rfl).1
  have H4 := Lib.hid (wr_set H3.out 1 (.slice (some ⟨g2, 0, none⟩) (l.length + 1) cap2))
  clear ho HO
  go_wp2
  go_ret
  exact ⟨rfl, _, _, .inr rfl, H4.out⟩
theorem unsafeString_none (W : World) (q : Option Addr) : (Builtin.unsafeString_ #[88, 3] 9 #[.pointer q, .int .i64 0]).run Tryd.prog W = .ok (.string .empty) W := Lib.run_unsafeString_none W _ _ _ q
theorem byteCells_byt (l : List UInt8) : l.map byt = Lib.byteCells l := rfl
set_option maxRecDepth 100000 in
set_option maxHeartbeats 1000000 in
theorem string_any {w0 w : World} {g : Nat} {nv : Value} {fs : List Ent} {l : List UInt8} (h : Wr w0 w g nv fs l) :
    Calls Tryd.prog 25 #[.pointer (some ⟨g, 0, none⟩)] w fun e w' => e = .returned (.string ⟨l.toArray⟩) ∧ Hid (Below w0.heap.size w0 w') := by
  obtain ⟨p, v, hp, h⟩ := h
  have hB := Lib.hid h.below
  have hsz := h.below.size
  have hc := (wr_cell (j := 1) h rfl).1
  have hglt : g < w.heap.size := by
    obtain ⟨cur, h1, _⟩ := wr_heap h
    exact (Array.getElem?_eq_some_iff.1 h1).1
  have hb := h.each (eBuf v l) (by simp)
  simp only [eBuf] at hb
  have hc1 : w.drew.cell? ⟨g, 1, none⟩ = some v := hc
  rcases hb.2 with ⟨rfl, hz⟩ | ⟨g2, cap, cur, rfl, hbg, hg, hnc, hcm, hcs, htake⟩
  · obtain rfl : l = [] := List.eq_nil_of_length_eq_zero hz
    have hUS := unsafeString_none
    have hSD : (Builtin.unsafeSliceData_ #[52] 88 #[.slice none 0 0]).run Tryd.prog w.drew = .ok (.pointer none) w.drew := rfl
    clear h hp hb hc
    go_enter Tryd.func25, Tryd.ntmps25
    go_wp2
    go_region
    go_wp2
    go_ret
    exact ⟨rfl, below_drewN hB.out 1⟩
  · by_cases hl0 : l = []
    · subst hl0
      have hUS := unsafeString_none
      by_cases hc0 : cap = 0
      · subst hc0
        have hg' : w.drew.heap[g2]? = some (.cells cur 5 (0, 0)) := hg
        have hSD : (Builtin.unsafeSliceData_ #[52] 88 #[.slice (some ⟨g2, 0, none⟩) 0 0]).run Tryd.prog w.drew = .ok (.pointer (some ⟨w.drew.heap.size, 0, none⟩)) (w.drew.alloc (.view ⟨g2, 0, none⟩ 5)) :=
          Lib.run_unsafeSliceData_zero w.drew _ _ 5 Tryd.underlying88 ⟨g2, 0, none⟩ 0 (5, cur.size) (by simp [World.shape?, hg'])
        have hc2 : (w.drew.alloc (.view ⟨g2, 0, none⟩ 5)).cell? ⟨g, 1, none⟩ = some (.slice (some ⟨g2, 0, none⟩) 0 0) := by
          rw [(bel_alloc w.drew _).cell (p := ⟨g, 1, none⟩) hglt]; exact hc1
        have hc3 : (w.alloc (.view ⟨g2, 0, none⟩ 5)).drew.cell? ⟨g, 1, none⟩ = some (.slice (some ⟨g2, 0, none⟩) 0 0) := hc2
        clear h hp hb hnc hcs htake hg hg' hcm hbg
        go_enter Tryd.func25, Tryd.ntmps25
        go_wp2
        go_region
        all_goals (go_wp2; go_ret; exact ⟨rfl, (below_drewN hB.out 1).alloc hsz _⟩)
      · have hSD : (Builtin.unsafeSliceData_ #[52] 88 #[.slice (some ⟨g2, 0, none⟩) 0 cap]).run Tryd.prog w.drew = .ok (.pointer (some ⟨g2, 0, none⟩)) w.drew :=
          Lib.run_unsafeSliceData_row _ _ _ _ _ _ hc0
        clear h hp hb hnc hcs htake hg hcm hbg hc0
        go_enter Tryd.func25, Tryd.ntmps25
        go_wp2
        go_region
        all_goals (go_wp2; go_ret; exact ⟨rfl, below_drewN hB.out 1⟩)
    · have hln : l.length ≠ 0 := fun e => hl0 (List.eq_nil_of_length_eq_zero e)
      have hSD : (Builtin.unsafeSliceData_ #[52] 88 #[.slice (some ⟨g2, 0, none⟩) l.length cap]).run Tryd.prog w.drew = .ok (.pointer (some ⟨g2, 0, none⟩)) w.drew :=
        Lib.run_unsafeSliceData_row _ _ _ _ _ _ (by omega)
      have hUS : (Builtin.unsafeString_ #[88, 3] 9 #[.pointer (some ⟨g2, 0, none⟩), .int .i64 l.length]).run Tryd.prog w.drew = .ok (.string ⟨l.toArray⟩) (w.drew.freeze ⟨g2, 0, none⟩ l.length) := by
        refine Lib.run_unsafeString_row w.drew 88 3 9 5 Tryd.underlying88 (by kernel_rfl) g2 cur.size (by have hg' : w.drew.heap[g2]? = some (.cells cur 5 (0, 0)) := hg; simp [World.shape?, hg']) l hl0 (by omega) (by unfold maxLen at hcm; omega) ?_
        intro j x hx
        exact hb.cells (g := g2) rfl j (.int .u8 x.toNat) (by simp [byt, hx])
      have HF := Lib.hid (Lib.below_freeze (below_drewN hB.out 1) (p := ⟨g2, 0, none⟩) hbg l.length)
      clear h hp hb hnc hcs htake hg hcm hbg
      go_enter Tryd.func25, Tryd.ntmps25
      go_wp2
      go_region
      all_goals (go_wp2; go_ret; exact ⟨rfl, HF.out⟩)
end Go.Proofs.YtaelgnmklepebaaDoor.Fm
