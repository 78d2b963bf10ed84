/- The walks of package form: the writer: a strings.Builder at the head of a struct; sign, rest, node. The walks of package form: sign, rest, node: a formula written. -/
import Derived.Test.YtloihkoamccacaaGreatDoorFormW
import Derived.Lib.Builder
import Derived.Lib.UnsafeStr
import Derived.Laws.Externs
import Derived.WalkLawsBesides

namespace Go.Proofs.YtloihkoamccacaaGreatDoor.Fm
open Go.RowKit Go.IntWalk Go.Proofs.YtloihkoamccacaaGreatDoor.Wd Go.Proofs.YtloihkoamccacaaGreatDoor.Wo

def byt (c : UInt8) : Value := .int .u8 (c.toNat : Int)
def eBuf (v : Value) (l : List UInt8) : Ent := ⟨5, 1, v, l.length, l.map byt⟩
def eWr (g : Nat) (l : List Value) : Ent := ⟨63, 3, .slice (some ⟨g, 0, none⟩) 1 1, 1, l⟩
theorem infoByt : (Tryz.prog.info? 5).map (fun i => (i.zero, i.size, i.bytes)) = some (some (.int .u8 0), 1, 1) := by kernel_rfl
/-- The writer: its block g, what it has written. -/
def Wr (w0 w : World) (g : Nat) (nv : Value) (fs : List Ent) (l : List UInt8) : Prop :=
  ∃ p v, (p = .pointer none ∨ p = .pointer (some ⟨g, 0, none⟩)) ∧ Own w0 w [eWr g [p, v, nv], eBuf v l] fs
theorem wr_heap {w0 w : World} {g : Nat} {l : List Value} {es fs : List Ent} (h : Own w0 w (eWr g l :: es) fs) : ∃ cur, w.heap[g]? = some (.cells cur 63 (0, 0)) ∧ cur.size = 3 ∧ w0.heap.size ≤ g := by
  rcases (h.each _ List.mem_cons_self).2 with ⟨e, _⟩ | ⟨g2, cap, cur, e, hB, hh, k1, k2, k3, k4⟩
  · simp [eWr] at e
  · simp only [eWr, Value.slice.injEq, Option.some.injEq, Addr.mk.injEq] at e
    obtain ⟨⟨rfl, _⟩, _, rfl⟩ := e
    exact ⟨cur, hh, by simpa [eWr] using k3, hB⟩
theorem wr_shape {w0 w : World} {g : Nat} {l : List Value} {es fs : List Ent} (h : Own w0 w (eWr g l :: es) fs) : w.shape? g = some (63, 3) := by
  obtain ⟨cur, h1, h2, _⟩ := wr_heap h
  simp [World.shape?, h1, h2]
theorem wr_cell {w0 w : World} {g : Nat} {l : List Value} {es fs : List Ent} (h : Own w0 w (eWr g l :: es) fs) {j : Nat} {u : Value} (hj : l[j]? = some u) : w.cell? ⟨g, j, none⟩ = some u ∧ w.frozen? ⟨g, j, none⟩ = false := h.cell (List.mem_cons_self : eWr g l ∈ (eWr g l :: es) ++ fs) hj
theorem wr_set {w0 w : World} {g : Nat} {l : List Value} {es fs : List Ent} (h : Own w0 w (eWr g l :: es) fs) (j : Nat) (u : Value) : Own w0 (w.setCell ⟨g, j, none⟩ u) (eWr g (l.set j u) :: es) fs := h.set j u
set_option maxRecDepth 100000 in
theorem copyCheck_any {w0 w : World} {g : Nat} {p v nv : Value} {es fs : List Ent} (hp : p = .pointer none ∨ p = .pointer (some ⟨g, 0, none⟩)) (h : Own w0 w (eWr g [p, v, nv] :: es) fs) :
    Calls Tryz.prog 84 #[.pointer (some ⟨g, 0, none⟩)] w fun e w' => e = .returned (.tuple #[]) ∧ Hid (Own w0 w' (eWr g [.pointer (some ⟨g, 0, none⟩), v, nv] :: es) fs) := by
  have h0 := wr_cell (j := 0) h rfl
  have hc0 := h0.1
  have hz0 := h0.2
  rcases hp with rfl | rfl
  · have HN := Lib.hid (wr_set h 0 (.pointer (some ⟨g, 0, none⟩)))
    have hsh := wr_shape h
    obtain ⟨j, hj, hjs⟩ := Option.map_eq_some_iff.1 (show (Tryz.prog.info? 61).map (·.size) = some 2 by kernel_rfl)
    have hl : liesAt Tryz.prog Tryz.prog.depth 63 (3 / Tryz.prog.cellsOf 63) 0 61 1 = true := by kernel_rfl
    clear h h0
    go_enter Tryz.func84, Tryz.ntmps84
    go_wp2
    rw [Lib.run_to_unsafe w ⟨g, 0, none⟩ Tryz.underlying58 Tryz.underlying150 hj (by rw [hjs]; decide) hsh (Nat.zero_lt_succ 2)]
    simp only [Result.andThen]
    rw [Oper.upon_value]
    go_wp2
    rw [run_callFunc_extern Tryz.func93 (by kernel_rfl) (by kernel_rfl) (by kernel_rfl) (e := Extern.AbiNoEscape.same) (by kernel_rfl)]
    rw [Lib.run_noEscape]
    simp only [Result.andThen]
    rw [Oper.upon_value]
    go_wp2
    rw [Lib.run_from_unsafe w ⟨g, 0, none⟩ Tryz.underlying150 Tryz.underlying58 hj hsh hl]
    simp only [Result.andThen]
    rw [Oper.upon_value]
    go_wp2
    go_end0
    exact ⟨rfl, HN.out⟩
  · have HN := Lib.hid h
    obtain ⟨j, hj, _⟩ := Option.map_eq_some_iff.1 (show (Tryz.prog.info? 61).map (·.size) = some 2 by kernel_rfl)
    clear h h0
    go_enter Tryz.func84, Tryz.ntmps84
    go_wp2
    rw [Lib.run_neq_ptr_same w _ Tryz.underlying58 hj]
    go_wp2
    go_end0
    exact ⟨rfl, HN.out⟩
theorem own_byte {w0 w : World} {ops : Array Oper} {rest : List Oper} {o : Oper} {a : Act} {Q : Exit → Act → World → Prop} (hgd : o.guard = none) (s x : Operand)
    (ho : o.op = .call { callee := .builtin .append, args := #[s, x], argTypes := #[59, 59] })
    {v : Value} {l : List UInt8} {es fs : List Ent} (hs : a.eval s = v) (h : Own w0 w (eBuf v l :: es) fs) {c : UInt8} {t' : TypeId} (hx : a.eval x = .slice (some ⟨w.heap.size, 0, none⟩) 1 1) (hb : l.length < 17592186044416)
    (hK : ∀ g cap w', Own w0 w' (eBuf (.slice (some ⟨g, 0, none⟩) (l.length + 1) cap) (l ++ [c]) :: es) fs → wpList Tryz.prog ops Q rest (a.put o.dst (.slice (some ⟨g, 0, none⟩) (l.length + 1) cap)) w') :
    wpList Tryz.prog ops Q (o :: rest) a (w.alloc (.cells #[.int .u8 (c.toNat : Int)] t')) := by
  refine own_append_lit hgd s x _ ho Tryz.underlying59 infoByt rfl (by decide) hs h hx rfl (fun u hu => by simp at hu; subst hu; rfl) (by omega) (by unfold maxLen; omega) (by omega) ?_
  intro g cap w' ho
  refine hK g cap w' ?_
  unfold eBuf
  simpa [byt] using ho
theorem buf_form {w0 w : World} {es fs : List Ent} {v : Value} {l : List UInt8} (h : Own w0 w es fs) (he : eBuf v l ∈ es ++ fs) : ∃ A cap, v = .slice A l.length cap ∧ l.length ≤ cap ∧ cap ≤ 9223372036854775807 := by
  obtain ⟨A, cap, hv, h1, h2, _⟩ := h.form he
  simp only [eBuf] at hv h1
  subst hv
  unfold maxLen at h2
  exact ⟨A, cap, rfl, h1, h2⟩
set_option maxRecDepth 100000 in
theorem len_any {w0 w : World} {g : Nat} {nv : Value} {fs : List Ent} {l : List UInt8} (h : Wr w0 w g nv fs l) :
    Calls Tryz.prog 73 #[.pointer (some ⟨g, 0, none⟩)] w fun e w' => e = .returned (.int .i64 l.length) ∧ w' = w := by
  obtain ⟨p, v, hp, h⟩ := h
  obtain ⟨A, cap, rfl, h1, h2⟩ := buf_form h (v := v) (l := l) (by simp)
  have hc1 := (wr_cell (j := 1) h rfl).1
  clear h hp
  go_enter Tryz.func73, Tryz.ntmps73
  go_wp2
  go_ret
  exact ⟨rfl, rfl⟩
set_option maxRecDepth 100000 in
set_option maxHeartbeats 1000000 in
theorem writeByte_any {w0 w : World} {g : Nat} {nv : Value} {fs : List Ent} {l : List UInt8} (h : Wr w0 w g nv fs l) (c : UInt8) (hl : l.length ≤ 1000000) :
    Calls Tryz.prog 74 #[.pointer (some ⟨g, 0, none⟩), .int .u8 (c.toNat : Int)] w fun e w' => e = .returned .nilIface ∧ Hid (Wr w0 w' g nv fs (l ++ [c])) := by
  obtain ⟨p, v, hp, h⟩ := h
  have HC := Lib.hid (copyCheck_any hp h)
  clear h hp
  go_enter Tryz.func74, Tryz.ntmps74
  go_wp2_with fail
  refine HC.out.mono ?_
  rintro e w2 ⟨rfl, HO⟩
  clear HC
  obtain ⟨A, cap, rfl, h1, h2⟩ := buf_form HO.out (v := v) (l := l) (by simp)
  have hc1 := (wr_cell (j := 1) HO.out rfl).1
  go_wp2_with (at_builtin; refine own_byte rfl _ _ rfl rfl HO.out.two rfl (by omega) ?_)
  intro g2 cap2 w3 ho
  have H3 := Lib.hid ho.two
  have hz1 := (wr_cell (j := 1) H3.out rfl).2
  have h31 := (wr_cell (j := 1) H3.out rfl).1
  have H4 := Lib.hid (wr_set H3.out 1 (.slice (some ⟨g2, 0, none⟩) (l.length + 1) cap2))
  clear ho HO
  go_wp2
  go_ret
  exact ⟨rfl, _, _, .inr rfl, H4.out⟩
theorem unsafeString_none (W : World) (q : Option Addr) : (Builtin.unsafeString_ #[117, 3] 9 #[.pointer q, .int .i64 0]).run Tryz.prog W = .ok (.string .empty) W := Lib.run_unsafeString_none W _ _ _ q
set_option maxRecDepth 100000 in
set_option maxHeartbeats 1000000 in
theorem string_any {w0 w : World} {g : Nat} {nv : Value} {fs : List Ent} {l : List UInt8} (h : Wr w0 w g nv fs l) :
    Calls Tryz.prog 25 #[.pointer (some ⟨g, 0, none⟩)] w fun e w' => e = .returned (.string ⟨l.toArray⟩) ∧ Hid (Below w0.heap.size w0 w') := by
  obtain ⟨p, v, hp, h⟩ := h
  have hB := Lib.hid h.below
  have hsz := h.below.size
  have hc := (wr_cell (j := 1) h rfl).1
  have hglt : g < w.heap.size := by
    obtain ⟨cur, h1, _⟩ := wr_heap h
    exact (Array.getElem?_eq_some_iff.1 h1).1
  have hb := h.each (eBuf v l) (by simp)
  simp only [eBuf] at hb
  have hc1 : w.drew.cell? ⟨g, 1, none⟩ = some v := hc
  rcases hb.2 with ⟨rfl, hz⟩ | ⟨g2, cap, cur, rfl, hbg, hg, hnc, hcm, hcs, htake⟩
  · obtain rfl : l = [] := List.eq_nil_of_length_eq_zero hz
    have hUS := unsafeString_none
    have hSD : (Builtin.unsafeSliceData_ #[59] 117 #[.slice none 0 0]).run Tryz.prog w.drew = .ok (.pointer none) w.drew := rfl
    clear h hp hb hc
    go_enter Tryz.func25, Tryz.ntmps25
    go_wp2
    go_region
    go_wp2
    go_ret
    exact ⟨rfl, below_drewN hB.out 1⟩
  · by_cases hl0 : l = []
    · subst hl0
      have hUS := unsafeString_none
      by_cases hc0 : cap = 0
      · subst hc0
        have hg' : w.drew.heap[g2]? = some (.cells cur 5 (0, 0)) := hg
        have hSD : (Builtin.unsafeSliceData_ #[59] 117 #[.slice (some ⟨g2, 0, none⟩) 0 0]).run Tryz.prog w.drew = .ok (.pointer (some ⟨w.drew.heap.size, 0, none⟩)) (w.drew.alloc (.view ⟨g2, 0, none⟩ 5)) :=
          Lib.run_unsafeSliceData_zero w.drew _ _ 5 Tryz.underlying117 ⟨g2, 0, none⟩ 0 (5, cur.size) (by simp [World.shape?, hg'])
        have hc2 : (w.drew.alloc (.view ⟨g2, 0, none⟩ 5)).cell? ⟨g, 1, none⟩ = some (.slice (some ⟨g2, 0, none⟩) 0 0) := by
          rw [(bel_alloc w.drew _).cell (p := ⟨g, 1, none⟩) hglt]; exact hc1
        have hc3 : (w.alloc (.view ⟨g2, 0, none⟩ 5)).drew.cell? ⟨g, 1, none⟩ = some (.slice (some ⟨g2, 0, none⟩) 0 0) := hc2
        clear h hp hb hnc hcs htake hg hg' hcm hbg
        go_enter Tryz.func25, Tryz.ntmps25
        go_wp2
        go_region
        all_goals (go_wp2; go_ret; exact ⟨rfl, (below_drewN hB.out 1).alloc hsz _⟩)
      · have hSD : (Builtin.unsafeSliceData_ #[59] 117 #[.slice (some ⟨g2, 0, none⟩) 0 cap]).run Tryz.prog w.drew = .ok (.pointer (some ⟨g2, 0, none⟩)) w.drew :=
          Lib.run_unsafeSliceData_row _ _ _ _ _ _ hc0
        clear h hp hb hnc hcs htake hg hcm hbg hc0
        go_enter Tryz.func25, Tryz.ntmps25
        go_wp2
        go_region
        all_goals (go_wp2; go_ret; exact ⟨rfl, below_drewN hB.out 1⟩)
    · have hln : l.length ≠ 0 := fun e => hl0 (List.eq_nil_of_length_eq_zero e)
      have hSD : (Builtin.unsafeSliceData_ #[59] 117 #[.slice (some ⟨g2, 0, none⟩) l.length cap]).run Tryz.prog w.drew = .ok (.pointer (some ⟨g2, 0, none⟩)) w.drew :=
        Lib.run_unsafeSliceData_row _ _ _ _ _ _ (by omega)
      have hUS : (Builtin.unsafeString_ #[117, 3] 9 #[.pointer (some ⟨g2, 0, none⟩), .int .i64 l.length]).run Tryz.prog w.drew = .ok (.string ⟨l.toArray⟩) (w.drew.freeze ⟨g2, 0, none⟩ l.length) := by
        refine Lib.run_unsafeString_row w.drew 117 3 9 5 Tryz.underlying117 (by kernel_rfl) g2 cur.size (by have hg' : w.drew.heap[g2]? = some (.cells cur 5 (0, 0)) := hg; simp [World.shape?, hg']) l hl0 (by omega) (by unfold maxLen at hcm; omega) ?_
        intro j x hx
        exact hb.cells (g := g2) rfl j (.int .u8 x.toNat) (by simp [byt, hx])
      have HF := Lib.hid (Lib.below_freeze (below_drewN hB.out 1) (p := ⟨g2, 0, none⟩) hbg l.length)
      clear h hp hb hnc hcs htake hg hcm hbg
      go_enter Tryz.func25, Tryz.ntmps25
      go_wp2
      go_region
      all_goals (go_wp2; go_ret; exact ⟨rfl, HF.out⟩)
end Go.Proofs.YtloihkoamccacaaGreatDoor.Fm

namespace Go.Proofs.YtloihkoamccacaaGreatDoor.Fm
open Go.RowKit Go.IntWalk Go.Proofs.YtloihkoamccacaaGreatDoor.Wd Go.Proofs.YtloihkoamccacaaGreatDoor.Wo

def panicOf (n : Nat) : PanicEntry := { v := .iface 57 (.int .i64 (n : Int)), recovered := false }
/-- What is written behind what was: all of it, or it is given up. -/
def Put (w0 : World) (g : Nat) (nv : Value) (fs : List Ent) (l t : List UInt8) (e : Ending) (w' : World) : Prop :=
  (l.length + t.length ≤ 300 ∧ e = .returned (.tuple #[]) ∧ Hid (Wr w0 w' g nv fs (l ++ t))) ∨ (300 < l.length + t.length ∧ e = .panicked [panicOf 4] ∧ Hid (Own w0 w' [] fs))
theorem Wr.below {w0 w : World} {g : Nat} {nv : Value} {fs : List Ent} {l : List UInt8} (h : Wr w0 w g nv fs l) : Below w0.heap.size w0 w := by
  obtain ⟨p, v, _, h⟩ := h
  exact h.below
theorem Wr.on {w0 w w1 : World} {g : Nat} {nv : Value} {fs : List Ent} {l : List UInt8} (h : Wr w0 w g nv fs l) (hb : Below w.heap.size w w1) : Wr w0 w1 g nv fs l := by
  obtain ⟨p, v, hp, h⟩ := h
  exact ⟨p, v, hp, h.on hb⟩
theorem Wr.only {w0 w : World} {g : Nat} {nv : Value} {fs : List Ent} {l : List UInt8} (h : Wr w0 w g nv fs l) : Own w0 w [] fs := by
  obtain ⟨p, v, hp, h⟩ := h
  exact h.only
theorem Wr.cell2 {w0 w : World} {g : Nat} {nv : Value} {fs : List Ent} {l : List UInt8} (h : Wr w0 w g nv fs l) : w.cell? ⟨g, 2, none⟩ = some nv := by
  obtain ⟨p, v, hp, h⟩ := h
  exact (wr_cell (j := 2) h rfl).1
set_option maxRecDepth 100000 in
theorem sign_any {w0 w : World} {g : Nat} {nv : Value} {fs : List Ent} {l : List UInt8} (h : Wr w0 w g nv fs l) (hl : l.length ≤ 300) (c : UInt8) (x : Int) (hx : (c.toNat : Int) = x) :
    Calls Tryz.prog 55 #[.pointer (some ⟨g, 0, none⟩), .int .u8 x] w (Put w0 g nv fs l [c]) := by
  subst hx
  have HL := Lib.hid (len_any h)
  by_cases h3 : l.length = 300
  · have HB := Lib.hid h.only
    have h9 : 300 < l.length + [c].length := by simp; omega
    rw [h3] at HL
    clear h hl
    go_enter Tryz.func55, Tryz.ntmps55
    go_wp2_with fail
    refine HL.out.mono ?_
    rintro e w2 ⟨rfl, rfl⟩
    clear HL
    go_wp2
    exact ⟨rfl, .inr ⟨h9, rfl, HB.out⟩⟩
  · have hq : ((l.length : Int) == 300) = false := beq_eq_false_iff_ne.2 (by omega)
    have HW := Lib.hid (writeByte_any h c (by omega))
    have h9 : l.length + [c].length ≤ 300 := by simp; omega
    clear h hl h3
    go_enter Tryz.func55, Tryz.ntmps55
    go_wp2_with fail
    refine HL.out.mono ?_
    rintro e w2 ⟨rfl, rfl⟩
    clear HL
    go_wp2_with fail
    refine HW.out.mono ?_
    rintro e w3 ⟨rfl, H3⟩
    clear HW
    go_wp2
    go_end0
    exact .inl ⟨h9, rfl, H3⟩
theorem bit_test {v k : Nat} : (bits .and .i64 ((v : Int) / 2 ^ k) 1 == 1) = v.testBit k := by
  have h := bit_has (s := (v : Int)) (a := (k : Int)) (by omega)
  rw [Int.toNat_natCast] at h
  rw [h, Nat.testBit_eq_decide_div_mod_eq]
  unfold has
  rw [Int.toNat_natCast, Int.toNat_natCast, Bool.eq_iff_iff]
  simp
theorem u8_low {k : Nat} (h : k < 6) : IntKind.u8.wrap (k : Int) = (k : Int) ∧ IntKind.u8.wrap (48 + (k : Int)) = 48 + (k : Int) := by
  have : k = 0 ∨ k = 1 ∨ k = 2 ∨ k = 3 ∨ k = 4 ∨ k = 5 := by omega
  rcases this with rfl | rfl | rfl | rfl | rfl | rfl <;> exact ⟨rfl, rfl⟩
theorem dg_num {k : Nat} (h : k < 6) : ((dg k).toNat : Int) = 48 + (k : Int) := by
  have : k = 0 ∨ k = 1 ∨ k = 2 ∨ k = 3 ∨ k = 4 ∨ k = 5 := by omega
  rcases this with rfl | rfl | rfl | rfl | rfl | rfl <;> rfl
set_option maxRecDepth 100000 in
set_option maxHeartbeats 1000000 in
theorem rest_any {w0 w : World} {g : Nat} {nv : Value} {fs : List Ent} {l : List UInt8} (h : Wr w0 w g nv fs l) (hl : l.length ≤ 300) (v : Nat) :
    Calls Tryz.prog 56 #[.pointer (some ⟨g, 0, none⟩), .int .i64 (v : Int)] w (Put w0 g nv fs l ((bitsOf v).map dg ++ [93])) := by
  rw [← bitsTo_all]
  have H0 : Hid (Wr w0 w g nv fs (l ++ bitsTo v 0)) := by simpa [Hid, bitsTo] using h
  clear h
  go_enter Tryz.func56, Tryz.ntmps56
  go_wp2
  go_loopw [5] (fun i wr => ∃ (k : Nat), k ≤ 6 ∧ i = .int .i64 k ∧ (l ++ bitsTo v k).length ≤ 300 ∧ Hid (Wr w0 wr g nv fs (l ++ bitsTo v k))) (fun i _ => 6 - (intOf i).toNat)
  case atStart => exact ⟨0, by omega, rfl, by simpa [bitsTo] using hl, H0⟩
  case round =>
    clear H0
    obtain ⟨k, hk, rfl, hlen, HW⟩ := hrel
    by_cases hlt : k < 6
    · have hq := bit_test (v := v) (k := k)
      have hu1 := (u8_low hlt).1
      have hu2 := (u8_low hlt).2
      rcases hb : v.testBit k with _ | _
      · rw [hb] at hq
        have HN : Hid (Wr w0 wr g nv fs (l ++ bitsTo v (k + 1))) := by rw [bitsTo_no hb]; exact HW.out
        have hlen2 : (l ++ bitsTo v (k + 1)).length ≤ 300 := by rw [bitsTo_no hb]; exact hlen
        clear hb HW
        go_wp2
        go_roundw
        case rel => exact ⟨k + 1, by omega, by go_num, hlen2, HN⟩
        case measure => simp [intOf]; omega
      · rw [hb] at hq
        have HS := Lib.hid (sign_any HW.out hlen (dg k) (48 + (k : Int)) (dg_num hlt))
        have HE := Lib.hid (bitsTo_yes hb)
        have hm := bitsTo_mono (v := v) (k := k + 1) (by omega)
        have hy : (bitsTo v (k + 1)).length = (bitsTo v k).length + 1 := by rw [bitsTo_yes hb]; simp
        clear hb HW
        go_wp2_with fail
        refine HS.out.mono ?_
        rintro e w2 (⟨h1, rfl, h2⟩ | ⟨h1, rfl, h2⟩)
        · clear HS
          have HN : Hid (Wr w0 w2 g nv fs (l ++ bitsTo v (k + 1))) := by rw [HE.out, ← List.append_assoc]; exact h2
          have hlen2 : (l ++ bitsTo v (k + 1)).length ≤ 300 := by rw [HE.out, ← List.append_assoc, List.length_append]; exact h1
          clear h1 h2
          go_wp2
          go_roundw
          case rel => exact ⟨k + 1, by omega, by go_num, hlen2, HN⟩
          case measure => simp [intOf]; omega
        · exact ⟨rfl, .inr ⟨by simp at h1 ⊢; omega, rfl, h2⟩⟩
    · obtain rfl : k = 6 := by omega
      have HS := Lib.hid (sign_any HW.out hlen 93 93 rfl)
      go_wp2_with fail
      refine HS.out.mono ?_
      rintro e w2 (⟨h1, rfl, h2⟩ | ⟨h1, rfl, h2⟩)
      · clear HS
        go_wp2
        go_end0
        exact .inl ⟨by simp at h1 ⊢; omega, rfl, by rw [← List.append_assoc]; exact h2⟩
      · exact ⟨rfl, .inr ⟨by simp at h1 ⊢; omega, rfl, h2⟩⟩
end Go.Proofs.YtloihkoamccacaaGreatDoor.Fm
