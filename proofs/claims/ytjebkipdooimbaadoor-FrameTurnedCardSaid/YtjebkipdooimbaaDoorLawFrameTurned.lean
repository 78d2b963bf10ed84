/-
  The statement FrameTurnedCardSaid of this seat, proved: for every input the law returns true and its arguments read behind the call as before. Conditions: none but the row's own (each argument within the reach; the listed variable as the program lays it, tied by the given tie).
-/
import Derived.Test.YtjebkipdooimbaaDoorRows
import Derived.Test.YtjebkipdooimbaaDoorCards
import Derived.Test.YtjebkipdooimbaaDoorTie
import Derived.SevenTiedAt
import Derived.LaidLaws
import Derived.LaidHandle
import Derived.Stop.Joined
import Derived.JoinedOf
import Derived.RowKit
import Derived.RowKitTokens
import Derived.ChangeSame
import Derived.ChangeVars
import Derived.Test.YtjebkipdooimbaaDoorTexts
import Derived.SliceStrings
import Derived.Test.YtjebkipdooimbaaDoorWords
import Derived.WalkKit
import Derived.ProofKit
import Derived.OpenShut
import Derived.ShutString
import Derived.ChangeOld
import Derived.Below
import Derived.SizedLaws
import Derived.Lib.Hide
import Derived.Deep.RegionWith
import Derived.Test.YtjebkipdooimbaaDoorFact
import Derived.Test.YtjebkipdooimbaaDoorFramed
import Derived.Test.YtjebkipdooimbaaDoorLit
import Derived.BigQuiet
namespace Go.Proofs.YtjebkipdooimbaaDoor.frameTurned
open Go.ChangeShapes Go.WideShapes Go.ChangeAt Go.RowKit Go.IntWalk Go.Proofs.YtjebkipdooimbaaDoor.Wd
open Go.ChangeMaps (open_string shut_string)
set_option linter.unusedVariables false

theorem own : ownKnob Tryd.prog.godebug = none := by kernel_rfl
theorem laidOut : laidOutB Tryd.prog = true := by kernel_rfl
theorem et : Tryd.prog.globalNamed "errors.errorType" = some 0 := by kernel_rfl
theorem rt : (Tryd.prog.cutTypes.find? (·.1 == "internal/reflectlite.rtype")).map (·.2) = some 78 := by kernel_rfl
theorem oneRow : ((List.range 122).filter fun t => Tryd.prog.rowNamed t [101, 114, 114, 111, 114]) = [23] := by kernel_rfl
theorem size : Tryd.prog.types.size = 122 := by kernel_rfl
/-- What the condition gives a walk: the variable's one cell. -/
theorem handle_of_laid {w : World} (h : laidMetH Tryd.prog [("errors.errorType", Rows.laid_errors_errorType)] w) : w.cell? ⟨0, 0, none⟩ = some (.iface 78 (.agg #[.pointer (some ⟨1, 23, none⟩)])) := by
  have h' : laidMet Tryd.prog [] w ∧ handlesMet Tryd.prog [("errors.errorType", Rows.laid_errors_errorType)] w := h
  obtain ⟨name, u, ty, e1, e2, e3, e4, e5⟩ := h'.2 _ (List.mem_singleton.2 rfl)
  have en : name = [101, 114, 114, 111, 114] := (Option.some.inj e1).symm
  subst en
  obtain rfl := Option.some.inj (rt.symm.trans e2)
  have hm : ty ∈ (List.range 122).filter fun t => Tryd.prog.rowNamed t [101, 114, 114, 111, 114] := List.mem_filter.2 ⟨List.mem_range.2 (by rw [← size]; exact e3), e4⟩
  rw [oneRow] at hm
  obtain rfl := List.mem_singleton.1 hm
  have hh : typeHandle Tryd.prog 23 = .pointer (some ⟨1, 23, none⟩) := by kernel_rfl
  rw [hh] at e5
  simpa using World.var?_cell et e5 0
/-- A world that meets the condition. -/
noncomputable def laidWorld (os : Os) : World :=
  let w0 := World.holding Tryd.prog os ⟨#[], #[], []⟩
  { w0 with heap := w0.heap.modify 0 fun
      | .cells _ t frozen => .cells #[.iface 78 (.agg #[.pointer (some ⟨1, 23, none⟩)])] t frozen
      | o => o }
theorem laidWorld_met (os : Os) (args : Array Value) : laidMetH Tryd.prog [("errors.errorType", Rows.laid_errors_errorType)] ((laidWorld os).forCall (fun _ _ => 0) ⟨#[], args, []⟩).memory :=
  laidMetH_of_parts (laidMet_nil _ _) (by kernel_rfl)
open Go.PlainAid Go.Proofs.YtjebkipdooimbaaDoor.Sm Go.Proofs.YtjebkipdooimbaaDoor.Pk Go.Proofs.YtjebkipdooimbaaDoor.Fr Go.Proofs.YtjebkipdooimbaaDoor.Er
theorem turned_text (l : List (List UInt8)) (p r : List UInt8) (b c : UInt8) (m : Nat) (k : Nat) (hk : k = (frames l).length + (num m).length + p.length) :
    ((str (frames l ++ (num m ++ (p ++ b :: r) ++ num (sm (p ++ b :: r))))).extract 0 k ++ str [c] ++ (str (frames l ++ (num m ++ (p ++ b :: r) ++ num (sm (p ++ b :: r))))).extract (k + 1) (str (frames l ++ (num m ++ (p ++ b :: r) ++ num (sm (p ++ b :: r))))).size).data.toList
      = frames l ++ (num m ++ (p ++ c :: r) ++ num (sm (p ++ b :: r))) := by
  have e : frames l ++ (num m ++ (p ++ b :: r) ++ num (sm (p ++ b :: r))) = (frames l ++ num m ++ p) ++ ([b] ++ (r ++ num (sm (p ++ b :: r)))) := by simp
  have e2 : frames l ++ (num m ++ (p ++ b :: r) ++ num (sm (p ++ b :: r))) = (frames l ++ num m ++ p ++ [b]) ++ (r ++ num (sm (p ++ b :: r))) := by simp
  have h1 : (frames l ++ (num m ++ (p ++ b :: r) ++ num (sm (p ++ b :: r)))).take k = frames l ++ num m ++ p := by
    rw [e, hk]
    have hl : (frames l).length + (num m).length + p.length = (frames l ++ num m ++ p).length := by simp [Nat.add_assoc]
    rw [hl, List.take_left]
  have h2 : (frames l ++ (num m ++ (p ++ b :: r) ++ num (sm (p ++ b :: r)))).drop (k + 1) = r ++ num (sm (p ++ b :: r)) := by
    rw [e2, hk]
    have hl : (frames l).length + (num m).length + p.length + 1 = (frames l ++ num m ++ p ++ [b]).length := by simp [Nat.add_assoc]
    rw [hl, List.drop_left]
  rw [ByteArray.data_append, Array.toList_append, ByteArray.data_append, Array.toList_append, ext_front, ext_back, str_data, str_data, h1, h2]
  simp
theorem split_at (x : List UInt8) (i : Nat) (h : i < x.length) : ∃ (p r : List UInt8) (b : UInt8), x = p ++ b :: r ∧ p.length = i ∧ bt (str x) i = (b.toNat : Int) := by
  obtain ⟨b, hb, hs⟩ := bt_in (str x) i (by rw [str_size]; exact h)
  rw [str_data] at hs
  exact ⟨x.take i, x.drop (i + 1), b, hs, by rw [List.length_take]; omega, hb⟩

set_option maxRecDepth 100000 in
set_option maxHeartbeats 4000000 in
theorem walk (A0 : Option Addr) (c0 : Nat) (z0 : List (List UInt8)) (a1 : Int) (a2 : Int) (a3 : Int) (w : World) (v0 : TextsAt w w.heap.size A0 z0) (r0 : z0.length ≤ 8796093021952) (t0 : ∀ b ∈ z0, b.length ≤ 9223372036854775807) (m0 : z0.length ≤ c0) (n0 : c0 ≤ 9223372036854775807) (l1 : -9223372036854775808 ≤ a1) (h1 : a1 ≤ 9223372036854775807) (l2 : -9223372036854775808 ≤ a2) (h2 : a2 ≤ 9223372036854775807) (l3 : 0 ≤ a3) (h3 : a3 ≤ 255) (hg : w.cell? ⟨0, 0, none⟩ = some (.iface 78 (.agg #[.pointer (some ⟨1, 23, none⟩)]))) :
    Calls Tryd.prog 6 #[.slice A0 z0.length c0, .int .i64 a1, .int .i64 a2, .int .u8 a3] w fun e w' => e = .returned (.bool true) ∧ Below w.heap.size w w' := by
  have HT := Lib.hid t0
  have HP := Lib.hid (fact_ok w hg)
  have HE := Lib.hid (fun W => says 7 hg W)
  generalize hE7 : errV 7 = E7 at HE
  clear t0 hg
  by_cases hj : 0 ≤ a1 ∧ a1 < (z0.length : Int)
  · obtain ⟨hj0, hj1⟩ := hj
    obtain ⟨j, rfl⟩ := Int.eq_ofNat_of_zero_le hj0
    have hjl : j < z0.length := by omega
    obtain ⟨ad, rfl, hadb, hcell⟩ := v0.at_ j hjl
    have HV := Lib.hid v0
    have hzk := HT.out z0[j] (List.getElem_mem hjl)
    rw [← str_size] at hzk
    clear v0
    by_cases hi : 0 ≤ a2 ∧ a2 < ((str z0[j]).size : Int)
    · obtain ⟨hi0, hi1⟩ := hi
      obtain ⟨i, rfl⟩ := Int.eq_ofNat_of_zero_le hi0
      have hil : i < (str z0[j]).size := by omega
      have b0 := bt_nonneg (str z0[j]) i
      have b1 := bt_le (str z0[j]) i
      have hbt := get_bt (str z0[j])
      by_cases hc : bt (str z0[j]) i = a3
      · have hc1 : (bt (str z0[j]) i == a3) = true := by simp [hc]
        clear hc
        go_enter Tryd.func6, Tryd.ntmps6
        go_wp2_with fail
        refine HP.out.mono ?_
        rintro e w1 ⟨rfl, hb⟩
        have HB1 := Lib.hid hb
        clear hb HP
        have hcell1 : w1.cell? (ad.add j) = some (.string (str z0[j])) := by rw [HB1.out.cell (by rw [Wd.block_add]; exact hadb)]; exact hcell
        clear hcell
        generalize str z0[j] = Z at *
        go_wp2
        go_ret
        exact ⟨rfl, HB1.out⟩
      · have hc1 : (bt (str z0[j]) i == a3) = false := by simp [hc]
        obtain ⟨c, rfl⟩ : ∃ c : UInt8, a3 = (c.toNat : Int) := ⟨UInt8.ofNat a3.toNat, by simp; omega⟩
        have HC := Lib.hid hc
        clear hc
        have hjc : j ≤ c0 := by omega
        have hlj : (z0.take j).length = j := by rw [List.length_take]; omega
        by_cases hz : ∀ b ∈ z0.take j, b.length ≤ 200
        · have HF := Lib.hid (fun W (h : Below w.heap.size w W) => framed_ok (some ad) c0 (z0.take j) W ((HV.out.on h).take j) (by omega) hz)
          rw [hlj] at HF
          have HZ := Lib.hid hz
          clear hz
          by_cases h200 : (str z0[j]).size ≤ 200
          · skip
            have hfr := (frames_le (z0.take j) HZ.out).2
            rw [hlj] at hfr
            have hscan := fun (p r : List UInt8) (b c : UInt8) => scan_turn (z0.take j) p r b c HZ.out
            have htext := turned_text (z0.take j)
            have HTK := Lib.hid (fun (A : Option Addr) (e d : Nat) W (h : TextsAt W W.heap.size A (z0.take j)) (h' : TextsAt W W.heap.size (some ad) (z0.take j)) => texts_same A (some ad) e d (z0.take j) (z0.take j) W rfl h h' (by omega))
            have HSC := fun (s : ByteArray) W (hs : s.size ≤ maxLen) (h : scan s.data.toList = (z0.take j, (frames (z0.take j)).length, 7)) => scan_ok s W hs (z0.take j) (frames (z0.take j)).length 7 h (by omega)
            rw [hE7] at HSC
            have HV2 := Lib.hid (fun W (h : Below w.heap.size w W) => (HV.out.on h).take j)
            rw [hlj] at HTK HSC
            clear HZ HV HT hzk
            generalize z0.take j = l at *
            generalize z0[j] = x at *
            clear hlj
            rw [str_size] at h200 hil
            obtain ⟨p, r, b, rfl, rfl, hbi⟩ := split_at x i hil
            have hbc : b ≠ c := fun h => HC.out (by rw [hbi, h])
            have hsc := hscan p r b c h200 hbc
            have HW := Lib.hid (fun W => write_ok (str (p ++ b :: r)) W (by rw [str_size]; exact h200))
            rw [str_data] at HW
            have HN := Lib.hid (fun W => num_ok (p ++ b :: r).length W (by omega))
            have hfm : (frm (p ++ b :: r)).length = (num (p ++ b :: r).length).length + (p ++ b :: r).length + (num (sm (p ++ b :: r))).length := by unfold frm; rw [List.length_append, List.length_append]
            have hnl := num_len (p ++ b :: r).length
            have hnm := num_len (sm (p ++ b :: r))
            obtain ⟨k, hk⟩ : ∃ k, k = (frames l).length + (num (p ++ b :: r).length).length + p.length := ⟨_, rfl⟩
            have htx := htext p r b c (p ++ b :: r).length k hk
            have hall : str (frames l) ++ str (frm (p ++ b :: r)) = str (frames l ++ (num (p ++ b :: r).length ++ (p ++ b :: r) ++ num (sm (p ++ b :: r)))) := by rw [str_app]; rfl
            rw [← hall] at htx
            have hasz : (str (frames l) ++ str (frm (p ++ b :: r))).size = (frames l).length + (frm (p ++ b :: r)).length := by rw [ByteArray.size_append, str_size, str_size]
            have hzs : (str (p ++ b :: r)).size = (p ++ b :: r).length := str_size _
            rw [← htx] at hsc
            have hxs : (str (frames l)).size = (frames l).length := str_size _
            have hfs : (str (frm (p ++ b :: r))).size = (frm (p ++ b :: r)).length := str_size _
            have hhs : (str (num (str (p ++ b :: r)).size)).size = (num (str (p ++ b :: r)).size).length := str_size _
            have hpl : p.length < (p ++ b :: r).length := hil
            clear hscan htext htx hall HC hbi
            rw [← hzs] at HN h200 hpl hfm hnl hk
            rw [← hxs] at HSC hfr hk hasz hsc
            rw [← hhs] at hfm hnl hk
            rw [← hfs] at hasz hfm
            have hfz : (str (frm (p ++ b :: r))).size ≤ 218 := by omega
            have hlt1 : (str (num (str (p ++ b :: r)).size)).size + p.length < (str (frm (p ++ b :: r))).size := by omega
            have hka : k + 1 ≤ (str (frames l) ++ str (frm (p ++ b :: r))).size := by omega
            have hal : (str (frames l) ++ str (frm (p ++ b :: r))).size ≤ 2000000000000000 := by omega
            have hxx : (str (frames l)).size ≤ 1999999999999000 := by omega
            have hY : (str [c]).size = 1 := str_size [c]
            have HK : Hid (((str (frames l)).size : Int) + ((str (num (str (p ++ b :: r)).size)).size : Int) + (p.length : Int) = ((k : Nat) : Int)) := by unfold Hid; omega
            clear hxs hfs hhs hzs hasz hfm hfr hnm hk hil
            generalize str (frames l) = X at *
            generalize str (frm (p ++ b :: r)) = FX at *
            generalize str (num (str (p ++ b :: r)).size) = Hd at *
            generalize hsI : p.length = i at *
            have hb1' : (str [c]).size = 1 := hY
            have HSCN := Lib.hid (fun W => HSC ((X ++ FX).extract 0 k ++ str [c] ++ (X ++ FX).extract (k + 1) (X ++ FX).size) W (by rw [ByteArray.size_append, ByteArray.size_append, ByteArray.size_extract, ByteArray.size_extract]; unfold maxLen; omega) hsc)
            clear HSC hsc hsI
            generalize str (p ++ b :: r) = Z at *
            clear hbc
            have HCELL := Lib.hid hcell
            clear hcell
            go_enter Tryd.func6, Tryd.ntmps6
            go_wp2_with fail
            refine HP.out.mono ?_
            rintro e w1 ⟨rfl, hb⟩
            have HB1 := Lib.hid hb
            clear hb HP
            have hcell1 : w1.cell? (ad.add j) = some (.string Z) := by rw [HB1.out.cell (by rw [Wd.block_add]; exact hadb)]; exact HCELL.out
            go_wp2_with fail
            refine (HF.out _ HB1.out).mono ?_
            rintro e w2 ⟨rfl, hb⟩
            have HB2 := Lib.hid (HB1.out.trans (hb.mono HB1.out.size))
            clear hb HF hcell1
            have hcell2 : w2.cell? (ad.add j) = some (.string Z) := by rw [HB2.out.cell (by rw [Wd.block_add]; exact hadb)]; exact HCELL.out
            go_wp2_with fail
            refine (HW.out _).mono ?_
            rintro e w3 ⟨rfl, hb⟩
            have HB3 := Lib.hid (HB2.out.trans (hb.mono HB2.out.size))
            clear hb HW HB2
            have hcell3 : w3.cell? (ad.add j) = some (.string Z) := by rw [HB3.out.cell (by rw [Wd.block_add]; exact hadb)]; exact HCELL.out
            go_wp2_with fail
            refine (HN.out _).mono ?_
            rintro e w4 ⟨rfl, hb⟩
            have HB4 := Lib.hid (HB3.out.trans (hb.mono HB3.out.size))
            clear hb HN HB3
            go_wp2
            rw [HK.out]
            generalize X ++ FX = Al at *
            have hw1 : IntKind.i64.wrap ((k : Int) + 1) = (k : Int) + 1 := IntWalk.i64_in _ ⟨by omega, by omega⟩
            have hn1 : ((k : Int) + 1).toNat = k + 1 := by omega
            have hp1 : (0 : Int) ≤ (k : Int) + 1 := by omega
            have hcv : (convert 46 9 (.slice (some { block := w4.heap.size, off := 0 }) 1 1)).run Tryd.prog ((w4.alloc (.cells #[.int .u8 (c.toNat : Int)] 5)).drew)
              = .ok (.string (str [c])) ((w4.alloc (.cells #[.int .u8 (c.toNat : Int)] 5)).drew) := conv_lit [c] w4 #[.int .u8 (c.toNat : Int)] rfl
            generalize str [c] = Y at *
            have hi1 : k ≤ Al.size := by omega
            have hi2 : (k : Int) + 1 ≤ Al.size := by omega
            have hX : (Al.extract 0 k).size = k := by rw [ByteArray.size_extract]; omega
            have hXY : (Al.extract 0 k ++ Y).size = k + 1 := by rw [ByteArray.size_append]; omega
            have hZ : (Al.extract (k + 1) Al.size).size = Al.size - (k + 1) := by rw [ByteArray.size_extract]; omega
            have hg3 : ¬ IntKind.i64.max < ((k + 1 : Nat) : Int) := by show ¬ (9223372036854775807 : Int) < _; omega
            have HBL := Lib.hid (below_lit w4 #[.int .u8 (c.toNat : Int)] 5)
            have hgN : ¬ 9223372036854775807 < k + 1 := by omega
            have hgM : ¬ 9223372036854775807 < k + 1 + (Al.size - (k + 1)) := by omega
            go_region_with ((go_at_call 13; refine (HSCN.out _).mono ?_; rintro e w5 ⟨A1, c1, rfl, ht, hb⟩))
            clear hw1 hcv hgN hgM hn1 hp1 hi2 hg3 hX hXY hZ hi1
            generalize (w4.alloc (.cells #[.int .u8 (c.toNat : Int)] 5)).drew = w6 at *
            have HB6 := Lib.hid (HB4.out.trans (HBL.out.mono HB4.out.size))
            have HB5 := Lib.hid (HB6.out.trans (hb.mono HB6.out.size))
            have HT5 := Lib.hid ht
            clear hb ht
            go_wp2_with fail
            refine (HE.out _ HB5.out).mono ?_
            rintro e w7 ⟨rfl, hb⟩
            have HB7 := Lib.hid (HB5.out.trans (hb.mono HB5.out.size))
            have HT7 := Lib.hid (HT5.out.on hb)
            have HTQ := Lib.hid (HTK.out A1 c1 c0 w7 HT7.out (HV2.out w7 HB7.out))
            clear hb
            go_wp2_with fail
            refine HTQ.out.mono ?_
            rintro e w8 ⟨rfl, hb⟩
            have HB8 := Lib.hid (HB7.out.trans (hb.mono HB7.out.size))
            clear hb
            go_wp2
            go_ret
            exact ⟨rfl, HB8.out⟩
          · have HW := Lib.hid (fun W => write_full (str z0[j]) W (by omega) (by unfold maxLen; exact hzk))
            generalize str (frames (z0.take j)) = X at *
            generalize str z0[j] = Z at *
            have HCELL := Lib.hid hcell
            clear hcell
            go_enter Tryd.func6, Tryd.ntmps6
            go_wp2_with fail
            refine HP.out.mono ?_
            rintro e w1 ⟨rfl, hb⟩
            have HB1 := Lib.hid hb
            clear hb HP
            have hcell1 : w1.cell? (ad.add j) = some (.string Z) := by rw [HB1.out.cell (by rw [Wd.block_add]; exact hadb)]; exact HCELL.out
            go_wp2_with fail
            refine (HF.out _ HB1.out).mono ?_
            rintro e w2 ⟨rfl, hb⟩
            have HB2 := Lib.hid (HB1.out.trans (hb.mono HB1.out.size))
            clear hb HF hcell1
            have hcell2 : w2.cell? (ad.add j) = some (.string Z) := by rw [HB2.out.cell (by rw [Wd.block_add]; exact hadb)]; exact HCELL.out
            go_wp2_with fail
            refine (HW.out _).mono ?_
            rintro e w3 ⟨rfl, hb⟩
            have HB3 := Lib.hid (HB2.out.trans (hb.mono HB2.out.size))
            clear hb HW
            go_wp2
            go_ret
            exact ⟨rfl, HB3.out⟩
        · have HF := Lib.hid (fun W (h : Below w.heap.size w W) => framed_bad (some ad) c0 (z0.take j) W ((HV.out.on h).take j) (by omega) (fun b hb => HT.out b (List.mem_of_mem_take hb)) hz)
          rw [hlj] at HF
          clear hz
          rcases hx : wrOut (str z0[j]).data.toList with ⟨x, d⟩
          have HW := Lib.hid (fun W => write_any (str z0[j]) W (by unfold maxLen; exact hzk))
          rw [hx] at HW
          unfold strOut at HW
          simp only at HW
          clear hx
          generalize errV d = E at *
          generalize str x = Y at *
          generalize str z0[j] = Z at *
          have HCELL := Lib.hid hcell
          clear hcell
          go_enter Tryd.func6, Tryd.ntmps6
          go_wp2_with fail
          refine HP.out.mono ?_
          rintro e w1 ⟨rfl, hb⟩
          have HB1 := Lib.hid hb
          clear hb HP
          have hcell1 : w1.cell? (ad.add j) = some (.string Z) := by rw [HB1.out.cell (by rw [Wd.block_add]; exact hadb)]; exact HCELL.out
          go_wp2_with fail
          refine (HF.out _ HB1.out).mono ?_
          rintro e w2 ⟨rfl, hb⟩
          have HB2 := Lib.hid (HB1.out.trans (hb.mono HB1.out.size))
          clear hb HF hcell1
          have hcell2 : w2.cell? (ad.add j) = some (.string Z) := by rw [HB2.out.cell (by rw [Wd.block_add]; exact hadb)]; exact HCELL.out
          go_wp2_with fail
          refine (HW.out _).mono ?_
          rintro e w3 ⟨he, hb⟩
          have HB3 := Lib.hid (HB2.out.trans (hb.mono HB2.out.size))
          have he' := he.out
          subst he'
          clear hb HW he
          go_wp2
          go_ret
          exact ⟨rfl, HB3.out⟩
    · by_cases hneg : a2 < 0
      · clear hi
        go_enter Tryd.func6, Tryd.ntmps6
        go_wp2_with fail
        refine HP.out.mono ?_
        rintro e w1 ⟨rfl, hb⟩
        have HB1 := Lib.hid hb
        clear hb HP
        have hcell1 : w1.cell? (ad.add j) = some (.string (str z0[j])) := by rw [HB1.out.cell (by rw [Wd.block_add]; exact hadb)]; exact hcell
        clear hcell
        generalize str z0[j] = Z at *
        go_wp2
        go_ret
        exact ⟨rfl, HB1.out⟩
      · have hge : ((str z0[j]).size : Int) ≤ a2 := by omega
        clear hi
        go_enter Tryd.func6, Tryd.ntmps6
        go_wp2_with fail
        refine HP.out.mono ?_
        rintro e w1 ⟨rfl, hb⟩
        have HB1 := Lib.hid hb
        clear hb HP
        have hcell1 : w1.cell? (ad.add j) = some (.string (str z0[j])) := by rw [HB1.out.cell (by rw [Wd.block_add]; exact hadb)]; exact hcell
        clear hcell
        generalize str z0[j] = Z at *
        go_wp2
        go_ret
        exact ⟨rfl, HB1.out⟩
  · by_cases hneg : a1 < 0
    · clear hj v0
      go_enter Tryd.func6, Tryd.ntmps6
      go_wp2_with fail
      refine HP.out.mono ?_
      rintro e w1 ⟨rfl, hb⟩
      have HB1 := Lib.hid hb
      clear hb HP
      go_wp2
      go_ret
      exact ⟨rfl, HB1.out⟩
    · have hge : (z0.length : Int) ≤ a1 := by omega
      clear hj v0
      go_enter Tryd.func6, Tryd.ntmps6
      go_wp2_with fail
      refine HP.out.mono ?_
      rintro e w1 ⟨rfl, hb⟩
      have HB1 := Lib.hid hb
      clear hb HP
      go_wp2
      go_ret
      exact ⟨rfl, HB1.out⟩


set_option maxRecDepth 100000 in
theorem lifted (os : Os) (started : os.Started) (H : Type) (enc : TypeId × Value → H) :
    ReturnsInHanded {} Tryd.checked os 6 .any (fun w args => (Rows.frameTurnedSpec.pre enc Tryd.prog Tryd.f6 Rows.frameTurnedRow.domain false w args ∧ laidMetH Tryd.prog [("errors.errorType", Rows.laid_errors_errorType)] w) ∧ sizedMet enc Tryd.prog Tryd.f6 (OpenSpec.ofChange Rows.frameTurnedSpec) false w args) (Rows.frameTurnedSpec.post enc Tryd.prog Tryd.f6 false true false false) := by
  refine returnsInHanded_of_change_and (C := Tryd.checked) (X := fun w _ => laidMetH Tryd.prog [("errors.errorType", Rows.laid_errors_errorType)] w) (fun _ _ _ hh h => h.of_heap hh) own started (by kernel_rfl) Tryd.func6
    (ChangeSpec.witness_at (enc := enc) (C := Tryd.checked) (os := os) (X := fun w _ => laidMetH Tryd.prog [("errors.errorType", Rows.laid_errors_errorType)] w) false (laidWorld os) #[.slice none 0 0, .int .i64 0, .int .i64 0, .int .u8 0] 8 rfl (by kernel_rfl) (by kernel_rfl) (by kernel_rfl) (by kernel_rfl) (by kernel_rfl) (laidWorld_met os _)) ?_
  intro W base args ds gs before hval0 hW hcnd hsz0 hL _
  have hval : ∀ (j : Nat) t v, Tryd.f6.params[j]? = some t → args[j]? = some v → Value.okWide Tryd.prog W .any base t v := hval0
  have hsz : (DataW.weightsEach Tryd.prog (Tryd.f6.params.toList ++ Rows.frameTurnedSpec.plain.varTypes Tryd.prog) (ds ++ gs)).all (· ≤ reachBytes) = true := hsz0
  have hW' := hW
  obtain ⟨p, q, hA0, hV0, rfl, hfz, hnd⟩ := hW
  have hV : DataW.TrodVars enc Tryd.prog W (fun _ => true) [] gs q := hV0
  have hA : DataW.TrodAll enc Tryd.prog W 0 (fun _ => true) true Tryd.f6.params.toList args.toList ds p := hA0
  rw [Tryd.params6] at hA hval hsz
  obtain ⟨v0, vs0, d0, ds0, p0, q0, hargs, rfl, rfl, h0, rr0⟩ := trodAll_cons hA
  obtain ⟨v1, vs1, d1, ds1, p1, q1, rfl, rfl, rfl, h1, rr1⟩ := trodAll_cons rr0
  obtain ⟨v2, vs2, d2, ds2, p2, q2, rfl, rfl, rfl, h2, rr2⟩ := trodAll_cons rr1
  obtain ⟨v3, vs3, d3, ds3, p3, q3, rfl, rfl, rfl, h3, rr3⟩ := trodAll_cons rr2
  obtain ⟨rfl, rfl, rfl⟩ := trodAll_nil rr3
  obtain rfl : args = #[v0, v1, v2, v3] := by cases args; simp_all
  obtain ⟨rfl, rfl⟩ := trodVars_none hV
  have k0 := h0
  have lt0 : ∀ x ∈ p0, x.block < W.heap.size := by obtain ⟨m, hm⟩ := k0; exact DataW.trod_lt m _ _ _ hm
  have k1 := h1
  have lt1 : ∀ x ∈ p1, x.block < W.heap.size := by obtain ⟨m, hm⟩ := k1; exact DataW.trod_lt m _ _ _ hm
  have k2 := h2
  have lt2 : ∀ x ∈ p2, x.block < W.heap.size := by obtain ⟨m, hm⟩ := k2; exact DataW.trod_lt m _ _ _ hm
  have k3 := h3
  have lt3 : ∀ x ∈ p3, x.block < W.heap.size := by obtain ⟨m, hm⟩ := k3; exact DataW.trod_lt m _ _ _ hm
  obtain ⟨A0, len0, c0, rfl⟩ := okWide_slice Tryd.underlying34 (hval 0 34 v0 rfl rfl)
  obtain ⟨z0, rfl, x0, r0, t0, m0, n0⟩ : ∃ zs : List (List UInt8), len0 = zs.length ∧ TextsAt W W.heap.size A0 zs ∧ zs.length ≤ 8796093021952 ∧ (∀ b ∈ zs, b.length ≤ 9223372036854775807) ∧ zs.length ≤ c0 ∧ c0 ≤ 9223372036854775807 := by
    obtain ⟨fuel, hf⟩ := h0
    rcases open_strings Tryd.underlying34 Tryd.underlying9 (by kernel_rfl) hf with ⟨hcs, _⟩ | ⟨x, l, c, zs, hcs, _, hl, hm, hz, hx, hcell, hwz⟩
    · simp [Value.cells] at hcs
      obtain ⟨rfl, rfl, rfl⟩ := hcs
      exact ⟨[], rfl, TextsAt.nil _ _ _, by simp, by simp, by simp, by simp⟩
    · simp [Value.cells] at hcs
      obtain ⟨rfl, rfl, rfl⟩ := hcs
      have hd := congrArg Prod.fst hx
      simp only at hd
      have := sized_slice hsz (j := 0) (t := 34) (e := 9) rfl (by rw [hd]; rfl) Tryd.underlying34
      rw [(show Tryd.prog.bytesOf 9 = 16 by kernel_rfl)] at this
      simp only [reachBytes, strs, List.length_map, List.length_take, List.length_drop] at this
      have hz' : zs.length = c0 := by simpa using hz
      refine ⟨(zs.take len0).map (fun s => s.data.toList), by rw [List.length_map, List.length_take]; omega, textsAt_of_open hcell len0, by rw [List.length_map, List.length_take]; omega, ?_, by rw [List.length_map, List.length_take]; omega, by unfold maxLen at hm; omega⟩
      intro b hb
      obtain ⟨s, hs, rfl⟩ := List.mem_map.1 hb
      have := hwz s (List.mem_of_mem_take hs)
      rw [data_len]; unfold maxLen at this; omega
  obtain ⟨a1, rfl, rfl, rfl, w1⟩ := open_int Tryd.underlying3 (hval 1 3 v1 rfl rfl) h1
  obtain ⟨l1, hh1⟩ := bounds_i64 w1
  obtain ⟨a2, rfl, rfl, rfl, w2⟩ := open_int Tryd.underlying3 (hval 2 3 v2 rfl rfl) h2
  obtain ⟨l2, hh2⟩ := bounds_i64 w2
  obtain ⟨a3, rfl, rfl, rfl, w3⟩ := open_int Tryd.underlying5 (hval 3 5 v3 rfl rfl) h3
  obtain ⟨l3, hh3⟩ := bounds_u8 w3
  clear hA0 hval0
  refine (walk A0 c0 z0 a1 a2 a3 W x0 r0 t0 m0 n0 l1 hh1 l2 hh2 l3 hh3 (handle_of_laid hL)).mono fun e W' ⟨he, bel⟩ => ?_
  subst he
  exact ⟨_, rfl, _, _, _, [], _, [], hW', trodAll_mk1 (shut_bool Tryd.underlying4 _), (trodAll_cons_mk (Below.trod laidOut (by kernel_rfl) (of_decide_eq_true (by kernel_rfl)) k0 bel lt0) (trodAll_cons_mk (Below.trod laidOut (by kernel_rfl) (of_decide_eq_true (by kernel_rfl)) k1 bel lt1) (trodAll_cons_mk (Below.trod laidOut (by kernel_rfl) (of_decide_eq_true (by kernel_rfl)) k2 bel lt2) (trodAll_cons_mk (Below.trod laidOut (by kernel_rfl) (of_decide_eq_true (by kernel_rfl)) k3 bel lt3) trodAll_mk0)))), rfl, bel.frame _, fun h => by cases h⟩

theorem over : Rows.frameTurnedRow.holds Tryd.pinned (OpenSpec.ofChange Rows.frameTurnedSpec) :=
  OpenClaim.holds_of_wide 6 Tryd.f6 rfl rfl rfl rfl rfl rfl rfl ⟨rfl, rfl, rfl, rfl, rfl⟩ rfl rfl rfl rfl rfl (by kernel_rfl) Tryd.func6 (by kernel_rfl)
    (of_decide_eq_true (by kernel_rfl)) (by unfold Func.isWrapper; rw [if_neg (of_decide_eq_false (by kernel_rfl))]; exact ⟨rfl, rfl⟩)
    (fun os started H enc _ => lifted os started H enc)
theorem proved : Rows.FrameTurnedCardSaid :=
  Claim7.holds_tied_plain_at .later [] [.handle] true (true, "e710c5158a0d88577b98c8901c15fa95774bac2ff64dc546779ee59af722ced0") true
    over (fun _ h => by cases h) (by kernel_rfl) (fun _ h => by cases h) frameTurned_row_tie rfl ⟨rfl, rfl⟩ (by kernel_rfl) rfl
    (fun f fn hf hfn => by
      obtain rfl : f = 6 := Option.some.inj ((show Tryd.prog.funcNamed "stileward/stilewardlaw1.FrameTurned" = some 6 by kernel_rfl).symm.trans hf) |>.symm
      obtain rfl : fn = Tryd.f6 := (Option.some.inj (Tryd.func6.symm.trans hfn)).symm
      exact ⟨by kernel_rfl, fun j t ht => by
        rw [Tryd.params6] at ht
        rcases j with _ | _ | _ | _ | j
        · obtain rfl : 34 = t := by simpa using ht
          exact (show Tryd.prog.wantsStandIn 34 = false by kernel_rfl)
        · obtain rfl : 3 = t := by simpa using ht
          exact (show Tryd.prog.wantsStandIn 3 = false by kernel_rfl)
        · obtain rfl : 3 = t := by simpa using ht
          exact (show Tryd.prog.wantsStandIn 3 = false by kernel_rfl)
        · obtain rfl : 5 = t := by simpa using ht
          exact (show Tryd.prog.wantsStandIn 5 = false by kernel_rfl)
        · simp at ht⟩)
    (by kernel_rfl)
#print axioms proved
end Go.Proofs.YtjebkipdooimbaaDoor.frameTurned
