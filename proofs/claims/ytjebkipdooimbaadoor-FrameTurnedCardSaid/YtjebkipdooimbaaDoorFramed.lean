/- The walk of the laws' own framed: all frames of a list of bodies. -/
import Derived.Test.YtjebkipdooimbaaDoorFrameW
import Derived.Test.YtjebkipdooimbaaDoorTexts
namespace Go.Proofs.YtjebkipdooimbaaDoor.Fr
open Go.RowKit Go.IntWalk Go.PlainAid Go.Proofs.YtjebkipdooimbaaDoor.Wd Go.Proofs.YtjebkipdooimbaaDoor.Pk Go.Proofs.YtjebkipdooimbaaDoor.Sm

/-- The place in framed's loop. -/
def Fits (z : List (List UInt8)) (k : Nat) (X : ByteArray) : Prop := X = str (frames (z.take k)) ∧ ∀ b ∈ z.take k, b.length ≤ 200
theorem fits_start (z : List (List UInt8)) : Fits z 0 (str []) := ⟨rfl, by simp⟩
theorem fits_next {z : List (List UInt8)} {k : Nat} {X : ByteArray} (h : Fits z k X) (hk : k < z.length) (hb : z[k].length ≤ 200) : Fits z (k + 1) (X ++ str (frm z[k])) := by
  have e : z.take (k + 1) = z.take k ++ [z[k]] := (List.take_append_getElem hk).symm
  refine ⟨?_, ?_⟩
  · rw [h.1, str_app, e, frames_snoc]
  · rw [e]
    intro b hm
    rcases List.mem_append.1 hm with hm | hm
    · exact h.2 b hm
    · simp at hm; subst hm; exact hb
theorem fits_size {z : List (List UInt8)} {k : Nat} {X : ByteArray} (h : Fits z k X) (hk : k ≤ z.length) : X.size ≤ 218 * k := by
  rw [h.1, str_size]
  have := (frames_le (z.take k) h.2).2
  rw [List.length_take] at this
  have e : min k z.length = k := Nat.min_eq_left hk
  rw [e] at this; exact this
theorem fits_end {z : List (List UInt8)} {X : ByteArray} (h : Fits z z.length X) : X = str (frames z) ∧ ∀ b ∈ z, b.length ≤ 200 := by
  have e : z.take z.length = z := List.take_of_length_le (Nat.le_refl _)
  unfold Fits at h
  rw [e] at h; exact h
/-- What framed returns. -/
def fdOut (z : List (List UInt8)) (e : Ending) : Prop :=
  ((∀ b ∈ z, b.length ≤ 200) ∧ e = .returned (.tuple #[.string (str (frames z)), .bool true])) ∨ ((¬ ∀ b ∈ z, b.length ≤ 200) ∧ e = .returned (.tuple #[.string (str []), .bool false]))

set_option maxRecDepth 100000 in
set_option maxHeartbeats 2000000 in
theorem framed_any (A : Option Addr) (c : Nat) (z : List (List UInt8)) (w : World) (hA : TextsAt w w.heap.size A z) (hl : z.length ≤ 8796093022208) (hz : ∀ b ∈ z, b.length ≤ 9223372036854775807) :
    Calls Tryd.prog 17 #[.slice A z.length c] w fun e w' => Hid (fdOut z e) ∧ Below w.heap.size w w' := by
  have HA := Lib.hid hA
  have HZ := Lib.hid hz
  clear hA hz
  go_enter Tryd.func17, Tryd.ntmps17
  go_wp2
  go_loopw [4, 5] (fun x i wr => ∃ (k : Nat) (X : ByteArray), k ≤ z.length ∧ i = .int .i64 k ∧ x = .string X ∧ Hid (Fits z k X) ∧ Hid (Below w.heap.size w wr)) (fun _ i _ => z.length - (intOf i).toNat)
  case atStart => exact ⟨0, str [], by omega, rfl, rfl, fits_start z, Below.refl _ _⟩
  case round =>
    obtain ⟨k, X, hk, rfl, rfl, HF, HB⟩ := hrel
    have hX := fits_size HF.out hk
    by_cases hlt : k < z.length
    · obtain ⟨ad, rfl, hadb, hcell⟩ := (HA.out.on HB.out).at_ k hlt
      have hzk := HZ.out z[k] (List.getElem_mem hlt)
      by_cases hb : z[k].length ≤ 200
      · have HW := Lib.hid (fun W => write_ok (str z[k]) W (by rw [str_size]; exact hb))
        have HN := Lib.hid (fits_next HF.out hlt hb)
        have hfl := (frm_len z[k] hb).2
        rw [str_data] at HW
        rw [← str_size] at hfl
        clear hzk hb
        generalize str (frm z[k]) = Y at *
        generalize str z[k] = Z at *
        go_wp2_with fail
        refine (HW.out _).mono ?_
        rintro e w1 ⟨rfl, hb1⟩
        have HB1 := Lib.hid (HB.out.trans (hb1.mono HB.out.size))
        clear hb1 HW
        go_wp2
        go_roundw
        case rel => exact ⟨k + 1, _, by omega, by go_num, rfl, HN, HB1⟩
        case measure => simp [intOf]; omega
      · have HW := Lib.hid (fun W => write_full (str z[k]) W (by rw [str_size]; omega) (by rw [str_size]; unfold maxLen; exact hzk))
        have HR : Hid (¬ ∀ b ∈ z, b.length ≤ 200) := fun h => hb (h _ (List.getElem_mem hlt))
        clear hzk hb
        generalize str z[k] = Z at *
        go_wp2_with fail
        refine (HW.out _).mono ?_
        rintro e w1 ⟨rfl, hb1⟩
        have HB1 := Lib.hid (HB.out.trans (hb1.mono HB.out.size))
        clear hb1 HW
        go_wp2
        go_ret2
        exact ⟨.inr ⟨HR.out, rfl⟩, HB1.out⟩
    · obtain rfl : k = z.length := by omega
      obtain ⟨f1, f2⟩ := fits_end HF.out
      have HE : Hid (X = str (frames z)) := f1
      have HO := Lib.hid f2
      clear f1 f2
      go_wp2
      go_ret2
      exact ⟨.inl ⟨HO.out, by rw [HE.out]; rfl⟩, HB.out⟩
theorem framed_ok (A : Option Addr) (c : Nat) (z : List (List UInt8)) (w : World) (hA : TextsAt w w.heap.size A z) (hl : z.length ≤ 8796093022208) (hz : ∀ b ∈ z, b.length ≤ 200) :
    Calls Tryd.prog 17 #[.slice A z.length c] w fun e w' => e = .returned (.tuple #[.string (str (frames z)), .bool true]) ∧ Below w.heap.size w w' :=
  (framed_any A c z w hA hl (fun b hb => by have := hz b hb; omega)).mono fun _ _ ⟨he, hb⟩ => ⟨by rcases he.out with ⟨_, h⟩ | ⟨h, _⟩; exact h; exact absurd hz h, hb⟩
theorem framed_bad (A : Option Addr) (c : Nat) (z : List (List UInt8)) (w : World) (hA : TextsAt w w.heap.size A z) (hl : z.length ≤ 8796093022208) (hz : ∀ b ∈ z, b.length ≤ 9223372036854775807) (hn : ¬ ∀ b ∈ z, b.length ≤ 200) :
    Calls Tryd.prog 17 #[.slice A z.length c] w fun e w' => e = .returned (.tuple #[.string (str []), .bool false]) ∧ Below w.heap.size w w' :=
  (framed_any A c z w hA hl hz).mono fun _ _ ⟨he, hb⟩ => ⟨by rcases he.out with ⟨h, _⟩ | ⟨_, h⟩; exact absurd h hn; exact h, hb⟩
end Go.Proofs.YtjebkipdooimbaaDoor.Fr
