/- The walks of package form: sign, rest, node: a formula written. -/
import Derived.Test.YtaelgnmklepebaaDoorWriter
namespace Go.Proofs.YtaelgnmklepebaaDoor.Fm
open Go.RowKit Go.IntWalk Go.Proofs.YtaelgnmklepebaaDoor.Wd Go.Proofs.YtaelgnmklepebaaDoor.Wo

def panicOf (n : Nat) : PanicEntry := { v := .iface 61 (.int .i64 (n : Int)), recovered := false }
/-- What is written behind what was: all of it, or it is given up. -/
def Put (w0 : World) (g : Nat) (nv : Value) (fs : List Ent) (l t : List UInt8) (e : Ending) (w' : World) : Prop :=
  (l.length + t.length ≤ 300 ∧ e = .returned (.tuple #[]) ∧ Hid (Wr w0 w' g nv fs (l ++ t))) ∨ (300 < l.length + t.length ∧ e = .panicked [panicOf 4] ∧ Hid (Own w0 w' [] fs))
theorem Wr.below {w0 w : World} {g : Nat} {nv : Value} {fs : List Ent} {l : List UInt8} (h : Wr w0 w g nv fs l) : Below w0.heap.size w0 w := by
  obtain ⟨p, v, _, h⟩ := h
  exact h.below
theorem Wr.on {w0 w w1 : World} {g : Nat} {nv : Value} {fs : List Ent} {l : List UInt8} (h : Wr w0 w g nv fs l) (hb : Below w.heap.size w w1) : Wr w0 w1 g nv fs l := by
  obtain ⟨p, v, hp, h⟩ := h
  exact ⟨p, v, hp, h.on hb⟩
theorem Wr.only {w0 w : World} {g : Nat} {nv : Value} {fs : List Ent} {l : List UInt8} (h : Wr w0 w g nv fs l) : Own w0 w [] fs := by
  obtain ⟨p, v, hp, h⟩ := h
  exact h.only
theorem Wr.cell2 {w0 w : World} {g : Nat} {nv : Value} {fs : List Ent} {l : List UInt8} (h : Wr w0 w g nv fs l) : w.cell? ⟨g, 2, none⟩ = some nv := by
  obtain ⟨p, v, hp, h⟩ := h
  exact (wr_cell (j := 2) h rfl).1
set_option maxRecDepth 100000 in
theorem sign_any {w0 w : World} {g : Nat} {nv : Value} {fs : List Ent} {l : List UInt8} (h : Wr w0 w g nv fs l) (hl : l.length ≤ 300) (c : UInt8) (x : Int) (hx : (c.toNat : Int) = x) :
    Calls Tryd.prog 45 #[.pointer (some ⟨g, 0, none⟩), .int .u8 x] w (Put w0 g nv fs l [c]) := by
  subst hx
  have HL := Lib.hid (len_any h)
  by_cases h3 : l.length = 300
  · have HB := Lib.hid h.only
    have h9 : 300 < l.length + [c].length := by simp; omega
    rw [h3] at HL
    clear h hl
    go_enter Tryd.func45, Tryd.ntmps45
    go_wp2_with fail
    refine HL.out.mono ?_
    rintro e w2 ⟨rfl, rfl⟩
    clear HL
    go_wp2
    exact ⟨rfl, .inr ⟨h9, rfl, HB.out⟩⟩
  · have hq : ((l.length : Int) == 300) = false := beq_eq_false_iff_ne.2 (by omega)
    have HW := Lib.hid (writeByte_any h c (by omega))
    have h9 : l.length + [c].length ≤ 300 := by simp; omega
    clear h hl h3
    go_enter Tryd.func45, Tryd.ntmps45
    go_wp2_with fail
    refine HL.out.mono ?_
    rintro e w2 ⟨rfl, rfl⟩
    clear HL
    go_wp2_with fail
    refine HW.out.mono ?_
    rintro e w3 ⟨rfl, H3⟩
    clear HW
    go_wp2
    go_end0
    exact .inl ⟨h9, rfl, H3⟩
theorem bit_test {v k : Nat} : (bits .and .i64 ((v : Int) / 2 ^ k) 1 == 1) = v.testBit k := by
  have h := bit_has (s := (v : Int)) (a := (k : Int)) (by omega)
  rw [Int.toNat_natCast] at h
  rw [h, Nat.testBit_eq_decide_div_mod_eq]
  unfold has
  rw [Int.toNat_natCast, Int.toNat_natCast, Bool.eq_iff_iff]
  simp
theorem u8_low {k : Nat} (h : k < 6) : IntKind.u8.wrap (k : Int) = (k : Int) ∧ IntKind.u8.wrap (48 + (k : Int)) = 48 + (k : Int) := by
  have : k = 0 ∨ k = 1 ∨ k = 2 ∨ k = 3 ∨ k = 4 ∨ k = 5 := by omega
  rcases this with rfl | rfl | rfl | rfl | rfl | rfl <;> exact ⟨rfl, rfl⟩
theorem dg_num {k : Nat} (h : k < 6) : ((dg k).toNat : Int) = 48 + (k : Int) := by
  have : k = 0 ∨ k = 1 ∨ k = 2 ∨ k = 3 ∨ k = 4 ∨ k = 5 := by omega
  rcases this with rfl | rfl | rfl | rfl | rfl | rfl <;> rfl
set_option maxRecDepth 100000 in
set_option maxHeartbeats 1000000 in
theorem rest_any {w0 w : World} {g : Nat} {nv : Value} {fs : List Ent} {l : List UInt8} (h : Wr w0 w g nv fs l) (hl : l.length ≤ 300) (v : Nat) :
    Calls Tryd.prog 46 #[.pointer (some ⟨g, 0, none⟩), .int .i64 (v : Int)] w (Put w0 g nv fs l ((bitsOf v).map dg ++ [93])) := by
  rw [← bitsTo_all]
  have H0 : Hid (Wr w0 w g nv fs (l ++ bitsTo v 0)) := by simpa [Hid, bitsTo] using h
  clear h
  go_enter Tryd.func46, Tryd.ntmps46
  go_wp2
  go_loopw [5] (fun i wr => ∃ (k : Nat), k ≤ 6 ∧ i = .int .i64 k ∧ (l ++ bitsTo v k).length ≤ 300 ∧ Hid (Wr w0 wr g nv fs (l ++ bitsTo v k))) (fun i _ => 6 - (intOf i).toNat)
  case atStart => exact ⟨0, by omega, rfl, by simpa [bitsTo] using hl, H0⟩
  case round =>
    clear H0
    obtain ⟨k, hk, rfl, hlen, HW⟩ := hrel
    by_cases hlt : k < 6
    · have hq := bit_test (v := v) (k := k)
      have hu1 := (u8_low hlt).1
      have hu2 := (u8_low hlt).2
      rcases hb : v.testBit k with _ | _
      · rw [hb] at hq
        have HN : Hid (Wr w0 wr g nv fs (l ++ bitsTo v (k + 1))) := by rw [bitsTo_no hb]; exact HW.out
        have hlen2 : (l ++ bitsTo v (k + 1)).length ≤ 300 := by rw [bitsTo_no hb]; exact hlen
        clear hb HW
        go_wp2
        go_roundw
        case rel => exact ⟨k + 1, by omega, by go_num, hlen2, HN⟩
        case measure => simp [intOf]; omega
      · rw [hb] at hq
        have HS := Lib.hid (sign_any HW.out hlen (dg k) (48 + (k : Int)) (dg_num hlt))
        have HE := Lib.hid (bitsTo_yes hb)
        have hm := bitsTo_mono (v := v) (k := k + 1) (by omega)
        have hy : (bitsTo v (k + 1)).length = (bitsTo v k).length + 1 := by rw [bitsTo_yes hb]; simp
        clear hb HW
        go_wp2_with fail
        refine HS.out.mono ?_
        rintro e w2 (⟨h1, rfl, h2⟩ | ⟨h1, rfl, h2⟩)
        · clear HS
          have HN : Hid (Wr w0 w2 g nv fs (l ++ bitsTo v (k + 1))) := by rw [HE.out, ← List.append_assoc]; exact h2
          have hlen2 : (l ++ bitsTo v (k + 1)).length ≤ 300 := by rw [HE.out, ← List.append_assoc, List.length_append]; exact h1
          clear h1 h2
          go_wp2
          go_roundw
          case rel => exact ⟨k + 1, by omega, by go_num, hlen2, HN⟩
          case measure => simp [intOf]; omega
        · exact ⟨rfl, .inr ⟨by simp at h1 ⊢; omega, rfl, h2⟩⟩
    · obtain rfl : k = 6 := by omega
      have HS := Lib.hid (sign_any HW.out hlen 93 93 rfl)
      go_wp2_with fail
      refine HS.out.mono ?_
      rintro e w2 (⟨h1, rfl, h2⟩ | ⟨h1, rfl, h2⟩)
      · clear HS
        go_wp2
        go_end0
        exact .inl ⟨by simp at h1 ⊢; omega, rfl, by rw [← List.append_assoc]; exact h2⟩
      · exact ⟨rfl, .inr ⟨by simp at h1 ⊢; omega, rfl, h2⟩⟩
end Go.Proofs.YtaelgnmklepebaaDoor.Fm
