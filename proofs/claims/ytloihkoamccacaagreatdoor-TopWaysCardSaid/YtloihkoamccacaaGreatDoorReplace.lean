/- strings.ReplaceAll of blanks by nothing, by the library's contracts of what it calls. -/
import Derived.Test.YtloihkoamccacaaGreatDoorFormM
import Derived.Test.YtloihkoamccacaaGreatDoorNodes
import Derived.Shelf.Strings.Replace
namespace Go.Proofs.YtloihkoamccacaaGreatDoor.Fm
open Go.RowKit Go.IntWalk Go.Shelf Go.Proofs.YtloihkoamccacaaGreatDoor.Wd

/-- The contracts' numbers of functions, types and variables, as this program has them. -/
def repRen : Ren := ⟨fun | 154 => 58 | 138 => 75 | 165 => 76 | 143 => 77 | 166 => 78 | 197 => 79 | 169 => 25 | 195 => 85 | 218 => 86 | 240 => 84 | 241 => 87 | 219 => 88 | 260 => 89 | 276 => 93 | 277 => 94 | 217 => 95 | 225 => 96 | 224 => 97 | 267 => 98 | 266 => 100 | _ => 101,
  fun | 9 => 9 | 3 => 3 | 4 => 4 | 72 => 61 | 0 => 0 | 76 => 140 | 105 => 142 | 21 => 21 | 5 => 5 | 70 => 58 | 20 => 20 | 37 => 59 | 75 => 28 | 127 => 117 | 164 => 150 | 46 => 153 | 119 => 154 | 139 => 157 | 138 => 156 | 146 => 161 | 51 => 160 | _ => 66,
  fun | 1 => 1 | 3 => 2 | 4 => 3 | x => x⟩
set_option maxRecDepth 100000 in
set_option maxHeartbeats 4000000 in
theorem rep_laid : Lays.n154 Tryz.prog repRen := by
  constructor <;> first | kernel_rfl | (intro w; kernel_rfl)
theorem rep_extra : Builder.Extra Tryz.prog repRen where
  sizeBuilder := by kernel_rfl
  liesBuilder := by kernel_rfl
  t5 := rep_laid.t5
  a5 := rep_laid.a5
  z5 := rep_laid.z5
  v5 := rep_laid.v5
  infoByte := by kernel_rfl
  cellsByte := by kernel_rfl
  sizeByte := by kernel_rfl
  neB5 := by decide
/-- The first blank. -/
theorem first_blank : ∀ l : List UInt8, 0 < l.count 32 → ∃ p q, l = p ++ 32 :: q ∧ strip p = p ∧ Lib.indexByte l 32 = (p.length : Int)
  | [], h => by simp at h
  | c :: l, h => by
    by_cases hc : c = 32
    · subst hc
      exact ⟨[], l, rfl, rfl, by simp [Lib.indexByte]⟩
    · have h2 : 0 < l.count 32 := by rwa [List.count_cons_of_ne hc] at h
      obtain ⟨p, q, h3, h4, h5⟩ := first_blank l h2
      refine ⟨c :: p, q, by rw [h3]; rfl, ?_, ?_⟩
      · unfold strip at h4 ⊢
        rw [List.filter_cons_of_pos (by simpa using hc), h4]
      · have hcb : (c == 32) = false := by simpa using hc
        simp only [Lib.indexByte, hcb, h5]
        have : ((p.length : Int) == -1) = false := beq_eq_false_iff_ne.2 (by omega)
        simp [this]
theorem strip_zero {l : List UInt8} (h : l.count 32 = 0) : strip l = l := strip_none fun c hc e => by
  subst e
  exact absurd (List.count_pos_iff.2 hc) (by omega)
abbrev IsB (w0 w : World) (l : List UInt8) : Prop := Lib.IsBuilder 61 5 w0.heap.size w0.heap.size (Lib.byteCells l) w
set_option maxRecDepth 100000 in
set_option maxHeartbeats 4000000 in
theorem replace_any (s : ByteArray) (w : World) (hs : s.size ≤ 300) :
    Calls Tryz.prog 58 #[.string s, .string { data := #[32] }, .string { data := #[] }, .int .i64 (-1)] w fun e w' => Hid (e = .returned (.string (str (strip s.data.toList)))) ∧ Below w.heap.size w w' := by
  have HC := Lib.hid (Any.strings_Count_one { rep_laid with } s 32 w)
  have hne : (ByteArray.toList { data := #[32] } == ByteArray.toList { data := #[] }) = false := (Lib.bytes_beq_false_iff _ _).2 (by decide)
  obtain ⟨M, hM⟩ : ∃ M : Nat, M = s.data.toList.count 32 := ⟨_, rfl⟩
  have hMs : M ≤ s.size := by rw [hM, ← data_len]; exact List.count_le_length
  rw [show Lib.countByte s.data.toList 32 = M from hM.symm] at HC
  by_cases h0 : M = 0
  · have HS : Hid (str (strip s.data.toList) = s) := by rw [Hid, strip_zero (by omega), str_of]
    subst h0
    clear hM hMs
    go_enter Tryz.func58, Tryz.ntmps58
    go_wp2_with fail
    refine HC.out.mono ?_
    rintro e w2 ⟨rfl, rfl⟩
    clear HC
    go_wp2
    go_ret
    exact ⟨by rw [HS.out]; rfl, Below.refl _ _⟩
  · have hq : ((M : Int) == 0) = false := beq_eq_false_iff_ne.2 (by omega)
    have HMM := Lib.hid hM
    clear hM
    go_enter Tryz.func58, Tryz.ntmps58
    go_wp2_with fail
    refine HC.out.mono ?_
    rintro e w2 ⟨rfl, rfl⟩
    clear HC
    go_wp2_with fail
    have hga : (s.size : Int) + -(M : Int) = ((s.size - M : Nat) : Int) := by omega
    rw [hga]
    refine (Any.Builder_Grow_fresh { rep_laid with } rep_extra w2.heap.size w2.heap.size _ _ (Nat.le_refl _) (heap_alloc_new w2 _) (by simp) (by omega)).mono ?_
    rintro e w3 ⟨rfl, hb0, hb1⟩
    have H1 : Hid (IsB w2 w3 []) := Or.inr hb0
    have HB1 := Lib.hid ((bel_alloc w2 (.cells #[.pointer none, .slice none 0 0] 61)).trans hb1)
    have HC0 : Hid ((s.data.toList.drop 0).count 32 = M - 0) := by rw [Hid, HMM.out]; simp
    have HS0 : Hid (([] : List UInt8) ++ strip (s.data.toList.drop 0) = strip s.data.toList) := by simp [Hid]
    clear hb0 hb1 hga HMM
    go_wp2_with fail
    go_loopw [11, 53] (fun s11 s53 wr => ∃ (i start : Nat) (acc : List UInt8), s53 = .int .i64 (i : Int) ∧ s11 = .int .i64 (start : Int) ∧ i ≤ M ∧ start ≤ s.size ∧ acc.length ≤ start ∧ Hid (IsB w2 wr acc) ∧ Hid (Below w2.heap.size w2 wr) ∧ Hid (acc ++ strip (s.data.toList.drop start) = strip s.data.toList) ∧ Hid ((s.data.toList.drop start).count 32 = M - i)) (fun _ i _ => M - (intOf i).toNat)
    case atStart => exact ⟨0, 0, [], rfl, rfl, by omega, by omega, by simp, H1, HB1, HS0, HC0⟩
    case round =>
      clear H1 HB1 HS0 HC0
      obtain ⟨i, start, acc, rfl, rfl, hi, hst, hal, HW, HB, HS, HCt⟩ := hrel
      have hBw : w2.heap.size ≤ wr.heap.size := HB.out.size
      by_cases hlt : i < M
      · obtain ⟨p, q, hpq, hp, hidx⟩ := first_blank (s.data.toList.drop start) (by rw [HCt.out]; omega)
        have hlen : p.length + 1 + q.length = s.size - start := by
          have := congrArg List.length hpq
          rw [List.length_drop, data_len, List.length_append, List.length_cons] at this
          omega
        have hd2 : s.data.toList.drop (start + p.length + 1) = q := by
          have : (s.data.toList.drop start).drop (p.length + 1) = q := by rw [hpq]; simp
          rwa [List.drop_drop, ← Nat.add_assoc] at this
        have hp32 : p.count 32 = 0 := by
          rw [← hp]; unfold strip
          exact List.count_eq_zero.2 fun h => by simpa using (List.mem_filter.1 h).2
        have HC2 : Hid ((s.data.toList.drop (start + p.length + 1)).count 32 = M - (i + 1)) := by
          have := HCt.out
          rw [hpq, List.count_append, List.count_cons_self, hp32] at this
          rw [Hid, hd2]; omega
        have HS2 : Hid ((acc ++ p) ++ strip (s.data.toList.drop (start + p.length + 1)) = strip s.data.toList) := by
          rw [Hid, ← HS.out, hd2, hpq, strip_append, hp, List.append_assoc]
          rfl
        have htk : (s.data.toList.drop start).take p.length = p := by rw [hpq]; simp
        have HTK := Lib.hid htk
        have HI := Lib.hid (Any.strings_Index_one { rep_laid with } (s.extract start s.size) 32 wr)
        rw [Lib.extract_to_end, hidx] at HI
        have c1 : (0 : Int) ≤ (start : Int) := by omega
        have c2 : (start : Int) ≤ (s.size : Int) := by omega
        have c3 : (start : Int) ≤ (start : Int) + (p.length : Int) := by omega
        have c4 : (start : Int) + (p.length : Int) ≤ (s.size : Int) := by omega
        clear hpq hp hidx hd2 hp32 htk HS HCt
        go_wp2_with fail
        refine HI.out.mono ?_
        rintro e w4 ⟨rfl, rfl⟩
        clear HI
        go_wp2_with fail
        refine (Any.Builder_WriteString { rep_laid with } rep_extra w2.heap.size w2.heap.size (Lib.byteCells acc) (s.extract start (start + p.length)) w4 HW.out (by rw [Lib.byteCells_length, ByteArray.size_extract]; omega) hBw).mono ?_
        rintro e w5 ⟨rfl, h5, hb5⟩
        rw [Lib.strCells_eq, Lib.extract_data, Nat.add_sub_cancel_left, HTK.out, ← Lib.byteCells_append] at h5
        have hBw5 : w2.heap.size ≤ w5.heap.size := Nat.le_trans hBw hb5.size
        have H5 : Hid (IsB w2 w5 (acc ++ p)) := Or.inr h5
        have HB5 := Lib.hid (HB.out.trans hb5)
        clear h5 hb5 HW HB HTK
        go_wp2_with fail
        refine (Any.Builder_WriteString { rep_laid with } rep_extra w2.heap.size w2.heap.size (Lib.byteCells (acc ++ p)) { data := #[] } w5 H5.out (by rw [Lib.byteCells_length, List.length_append]; have : ByteArray.size { data := #[] } = 0 := rfl; omega) hBw5).mono ?_
        rintro e w6 ⟨rfl, h6, hb6⟩
        rw [show Lib.strCells { data := #[] } = [] from rfl, List.append_nil] at h6
        have H6 : Hid (IsB w2 w6 (acc ++ p)) := Or.inr h6
        have HB6 := Lib.hid (HB5.out.trans hb6)
        clear h6 hb6 H5 HB5
        go_wp2
        go_roundw
        case rel => exact ⟨i + 1, start + p.length + 1, acc ++ p, by go_num, by go_num, by omega, by omega, by rw [List.length_append]; omega, H6, HB6, HS2, HC2⟩
        case measure => simp [intOf]; omega
      · obtain rfl : i = M := by omega
        have HF : Hid (acc ++ s.data.toList.drop start = strip s.data.toList) := by
          rw [Hid, ← HS.out, strip_zero (by rw [HCt.out]; omega)]
        clear HS HCt
        go_wp2_with fail
        refine (Any.Builder_WriteString { rep_laid with } rep_extra w2.heap.size w2.heap.size (Lib.byteCells acc) _ wr HW.out (by rw [Lib.byteCells_length, ByteArray.size_extract]; omega) hBw).mono ?_
        rintro e w5 ⟨rfl, h5, hb5⟩
        rw [Lib.strCells_eq, Lib.extract_to_end, ← Lib.byteCells_append, HF.out] at h5
        have hBw5 : w2.heap.size ≤ w5.heap.size := Nat.le_trans hBw hb5.size
        have H5 : Hid (IsB w2 w5 (strip s.data.toList)) := Or.inr h5
        have HB5 := Lib.hid (HB.out.trans hb5)
        clear h5 hb5 HW HB HF
        go_wp2_with fail
        refine (Any.Builder_String_any { rep_laid with } rep_extra w2.heap.size w2.heap.size (strip s.data.toList) w5 H5.out hBw5).mono ?_
        rintro e w6 ⟨rfl, hb6⟩
        have HB6 := Lib.hid (HB5.out.trans hb6)
        clear hb6 H5
        go_wp2
        go_ret
        exact ⟨rfl, HB6.out⟩
theorem replaceAll_any (s : ByteArray) (w : World) (hs : s.size ≤ 300) :
    Calls Tryz.prog 27 #[.string s, .string { data := #[32] }, .string { data := #[] }] w fun e w' => e = .returned (.string (str (strip s.data.toList))) ∧ Hid (Below w.heap.size w w') := by
  have HR := Lib.hid (replace_any s w hs)
  obtain ⟨R, hR⟩ : ∃ R, R = str (strip s.data.toList) := ⟨_, rfl⟩
  rw [← hR] at HR ⊢
  clear hR hs
  go_enter Tryz.func27, Tryz.ntmps27
  go_wp2_with fail
  refine HR.out.mono ?_
  rintro e w2 ⟨he, hb⟩
  obtain rfl := he.out
  have HB := Lib.hid hb
  clear he hb HR
  go_wp2
  go_ret
  exact ⟨rfl, HB⟩
end Go.Proofs.YtloihkoamccacaaGreatDoor.Fm
