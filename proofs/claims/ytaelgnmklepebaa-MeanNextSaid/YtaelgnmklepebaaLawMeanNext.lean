/-
  The statement MeanNextSaid of this seat, proved: for every input the law returns true and its arguments read behind the call as before. Conditions: none but the row's own (each argument within the reach).
-/
import Derived.Test.YtaelgnmklepebaaRows
import Derived.Test.YtaelgnmklepebaaWords
import Derived.WalkKit
import Derived.ProofKit
import Derived.OpenShut
import Derived.ShutString
import Derived.ChangeOld
import Derived.Below
import Derived.SizedLaws
import Derived.Lib.Hide
import Derived.Test.YtaelgnmklepebaaMeanL
namespace Go.Proofs.Ytaelgnmklepebaa.meanNext
open Go.ChangeShapes Go.WideShapes Go.ChangeAt Go.RowKit Go.IntWalk Go.Proofs.Ytaelgnmklepebaa.Wd
open Go.ChangeMaps (open_string shut_string)
set_option linter.unusedVariables false

theorem own : ownKnob Try.prog.godebug = none := by kernel_rfl
theorem laidOut : laidOutB Try.prog = true := by kernel_rfl
open Go.Proofs.Ytaelgnmklepebaa.Wo Go.Proofs.Ytaelgnmklepebaa.Fm
theorem bad_reason {L a : Int} {z : List Int} (h1 : 1 ≤ L ∧ L ≤ 6) (hz : Fine L z) (h : ¬ Fine L (a :: z)) : a < 0 ∨ L ≤ a ∨ 80 ≤ z.length := by
  by_cases q1 : a < 0
  · exact .inl q1
  by_cases q2 : L ≤ a
  · exact .inr (.inl q2)
  refine .inr (.inr ?_)
  by_cases q3 : 80 ≤ z.length
  · exact q3
  · refine absurd ⟨h1, by simp; omega, fun x hx => ?_⟩ h
    rcases List.mem_cons.1 hx with rfl | hx
    · omega
    · exact hz.2.2 x hx
/-- 'v = append(v, l...)', the length told by a letter. -/
theorem app_gen {M : Nat} {l : List Int} (hM : Hid (l.length = M)) {w : World} {ops : Array Oper} {rest : List Oper} {o : Oper} {a : Act} {Q : Exit → Act → World → Prop} (hgd : o.guard = none) (s x : Operand)
    (ho : o.op = .call { callee := .builtin .append, args := #[s, x], argTypes := #[23, 23] })
    {B : Nat} {w0 : World} {acc : List Int} {v : Value} (hs : a.eval s = v) (ht : Nums B w0 acc v w)
    {A : Option Addr} {c : Nat} (hx : a.eval x = .slice A M c) (hA : IntsAt w w.heap.size A l) (hb : acc.length + M ≤ 17592186044416)
    (h : ∀ v' w', Nums B w0 (acc ++ l) v' w' → wpList Try.prog ops Q rest (a.put o.dst v') w') : wpList Try.prog ops Q (o :: rest) a w := by
  have hM := hM.out
  subst hM
  exact app_ints hgd s x ho hs ht hx hA hb h

set_option maxRecDepth 100000 in
set_option maxHeartbeats 4000000 in
theorem walk (a0 : Int) (A1 : Option Addr) (c1 : Nat) (z1 : List Fm.Nd) (a2 : Int) (A3 : Option Addr) (c3 : Nat) (z3 : List Int) (w : World) (l0 : -9223372036854775808 ≤ a0) (h0 : a0 ≤ 9223372036854775807) (v1 : Fm.NodesAt w w.heap.size A1 z1) (m1 : z1.length ≤ c1) (n1 : c1 ≤ 9223372036854775807) (r1 : z1.length ≤ 5864062014634) (l2 : -9223372036854775808 ≤ a2) (h2 : a2 ≤ 9223372036854775807) (v3 : IntsAt w w.heap.size A3 z3) (r3 : z3.length ≤ 17592186043904) (m3 : z3.length ≤ c3) :
    Calls Try.prog 3 #[.int .i64 a0, .slice A1 z1.length c1, .int .i64 a2, .slice A3 z3.length c3] w fun e w' => e = .returned (.bool true) ∧ Below w.heap.size w w' := by
  have hL : Small a0 := ⟨l0, h0⟩
  have HK := Lib.hid known_any
  have HN1 := Lib.hid v1
  have HZ3 := Lib.hid v3
  obtain ⟨n, hn⟩ : ∃ n, z1.length = n := ⟨_, rfl⟩
  obtain ⟨M, hM⟩ : ∃ M, z3.length = M := ⟨_, rfl⟩
  by_cases hv : verr a0 z1 z3 = 0
  · obtain ⟨g, hw⟩ := verr_iff.1 hv
    have hne := g.ne
    have hle := g.le
    obtain ⟨b, hbv⟩ : ∃ b, b = fval z1 z3 := ⟨_, rfl⟩
    have HF := Lib.hid (fun W A c B cb => holds_is hL (by omega) (by omega) hn hM (.inl ⟨hv, hbv, rfl⟩) A c B cb W)
    have hs := nds_small g
    have hn0 : 0 < n := by omega
    have hn41 : n ≤ 40 := by omega
    have s6 : NdSmall (6, (z1.length : Int) - 1, 0) := small_nd (by decide) ⟨by omega, by omega⟩ (by decide)
    have s7 : NdSmall (7, (z1.length : Int) - 1, 0) := small_nd (by decide) ⟨by omega, by omega⟩ (by decide)
    have H6 := Lib.hid (fun A c W => more_one (by omega) (by omega) hn hs 6 ((z1.length : Int) - 1) 0 s6 A c W)
    have H7 := Lib.hid (fun A c W => more_one (by omega) (by omega) hn hs 7 ((z1.length : Int) - 1) 0 s7 A c W)
    have l6 : (z1 ++ [(6, (z1.length : Int) - 1, (0 : Int))]).length = n + 1 := by rw [List.length_append, hn]; rfl
    have l7 : (z1 ++ [(7, (z1.length : Int) - 1, (0 : Int))]).length = n + 1 := by rw [List.length_append, hn]; rfl
    by_cases h40 : z1.length < 40
    · obtain ⟨g6, _⟩ := root_un g h40 (k := 6) (.inr (.inl rfl))
      obtain ⟨g7, _⟩ := root_un g h40 (k := 7) (.inr (.inr rfl))
      have P6 := Lib.hid (fun W A c B cb => holds_is (z := []) hL (by omega) (by simp) l6 (M := 0) rfl (.inl ⟨verr_iff.2 ⟨g6, fine_nil g⟩, (next_none g h40).symm, rfl⟩) A c B cb W)
      have P7 := Lib.hid (fun W A c B cb => holds_is (z := []) hL (by omega) (by simp) l7 (M := 0) rfl (.inl ⟨verr_iff.2 ⟨g7, fine_nil g⟩, (weak_none g h40).symm, rfl⟩) A c B cb W)
      have hlA : (a2 :: z3).length = M + 1 := by rw [← hM]; rfl
      have hM80 : M ≤ 80 := by rw [← hM]; exact hw.2.1
      have HI := Lib.hid (fun W B => IntsAt.nil W B none)
      by_cases hwA : Fine a0 (a2 :: z3)
      · have T6 := Lib.hid (fun W A c B cb => holds_is (z := a2 :: z3) hL (by omega) (by rw [hlA]; omega) l6 hlA (.inl ⟨verr_iff.2 ⟨g6, hwA⟩, hbv.trans (next_some g h40 a2 z3).symm, rfl⟩) A c B cb W)
        have T7 := Lib.hid (fun W A c B cb => holds_is (z := a2 :: z3) hL (by omega) (by rw [hlA]; omega) l7 hlA (.inl ⟨verr_iff.2 ⟨g7, hwA⟩, hbv.trans (weak_some g h40 a2 z3).symm, rfl⟩) A c B cb W)
        have HM := Lib.hid hM
        have HS3 : Hid (∀ x ∈ a2 :: z3, Small x) := fun x hx => by
          rcases List.mem_cons.1 hx with rfl | hx
          · exact ⟨l2, h2⟩
          · exact v3.2 x hx
        generalize z1 ++ [(6, (z1.length : Int) - 1, (0 : Int))] = Z6 at *
        generalize z1 ++ [(7, (z1.length : Int) - 1, (0 : Int))] = Z7 at *
        rw [hn] at H6 H7
        rw [hn, hM]
        clear hn hM hv g hw hs s6 s7 l6 l7 g6 g7 hlA hwA hL hbv
        go_enter Try.func3, Try.ntmps3
        go_wp2_with fail
        refine (HK.out _).mono ?_
        rintro e w2 ⟨rfl, hb⟩
        have B2 := Lib.hid hb
        replace HN1 := Lib.hid (HN1.out.on hb)
        replace HZ3 := Lib.hid (HZ3.out.on hb)
        clear hb HK
        go_wp2_with fail
        refine (HF.out _ _ _ _ _ HN1.out HZ3.out).mono ?_
        rintro e w3 ⟨rfl, hb⟩
        have B3 := Lib.hid (B2.out.trans (hb.mono B2.out.size))
        replace HN1 := Lib.hid (HN1.out.on hb)
        replace HZ3 := Lib.hid (HZ3.out.on hb)
        clear hb HF
        go_wp2_with fail
        refine (H6.out _ _ _ HN1.out).mono ?_
        rintro e w4 ⟨he, hb⟩
        obtain ⟨A5, c5, rfl, N5⟩ := he.out
        have B4 := Lib.hid (B3.out.trans (hb.mono B3.out.size))
        replace HN1 := Lib.hid (HN1.out.on hb)
        replace HZ3 := Lib.hid (HZ3.out.on hb)
        clear hb he H6
        go_wp2_with fail
        refine (H7.out _ _ _ HN1.out).mono ?_
        rintro e w5 ⟨he, hb⟩
        obtain ⟨A6, c6, rfl, N6⟩ := he.out
        have B5 := Lib.hid (B4.out.trans (hb.mono B4.out.size))
        replace HN1 := Lib.hid (HN1.out.on hb)
        replace HZ3 := Lib.hid (HZ3.out.on hb)
        replace N5 := Lib.hid (N5.out.on hb)
        clear hb he H7
        go_wp2_with fail
        refine (P6.out _ _ _ _ _ N5.out (HI.out _ _)).mono ?_
        rintro e w6 ⟨rfl, hb⟩
        have B6 := Lib.hid (B5.out.trans (hb.mono B5.out.size))
        replace HN1 := Lib.hid (HN1.out.on hb)
        replace HZ3 := Lib.hid (HZ3.out.on hb)
        replace N5 := Lib.hid (N5.out.on hb)
        replace N6 := Lib.hid (N6.out.on hb)
        clear hb P6
        go_wp2_with fail
        refine (P7.out _ _ _ _ _ N6.out (HI.out _ _)).mono ?_
        rintro e w7 ⟨rfl, hb⟩
        have B7 := Lib.hid (B6.out.trans (hb.mono B6.out.size))
        replace HN1 := Lib.hid (HN1.out.on hb)
        replace HZ3 := Lib.hid (HZ3.out.on hb)
        replace N5 := Lib.hid (N5.out.on hb)
        replace N6 := Lib.hid (N6.out.on hb)
        clear hb P7
        have HV0 := Lib.hid (nums_nil w7)
        have hV0 := (Below.refl w7.heap.size w7)
        obtain ⟨B0, hB0⟩ : ∃ B0, B0 = w7.heap.size := ⟨_, rfl⟩
        rw [← hB0] at HV0
        have HB0 := Lib.hid hB0
        clear hV0 hB0
        go_wp2_with (at_builtin; refine app_one (by rfl) _ _ (by rfl) (by rfl) HV0.out (by rfl) (by decide) ?_)
        intro v8 w8 hv8
        have HV8 : Hid (Nums B0 w7 [a2] v8 w8) := hv8
        have HZ8 := Lib.hid (nums_keep HV8.out HB0.out HZ3.out)
        have q8 : [a2].length + M ≤ 17592186044416 := by simp; omega
        have HM8 : Hid (Hid (IntsAt w8 w8.heap.size A3 z3)) := HZ8
        clear hv8 HV0
        go_wp2_with (at_builtin; refine app_gen HM (by rfl) _ _ (by rfl) (by rfl) HV8.out (by rfl) HZ8.out q8 ?_)
        intro v9 w9 hv9
        have hb : Below w7.heap.size w7 w9 := by have := hv9.2.1; rw [HB0.out] at this; exact this
        have hv9 : Nums B0 w7 (a2 :: z3) v9 w9 := hv9
        obtain ⟨A9, c9, he9, hc9⟩ := nums_at hv9
        have hlen9 : (a2 :: z3).length = M + 1 := by rw [← HM.out]; rfl
        rw [hlen9] at he9
        subst he9
        have I9 : Hid (IntsAt w9 w9.heap.size A9 (a2 :: z3)) := ⟨hc9, HS3.out⟩
        have B9 := Lib.hid (B7.out.trans (hb.mono B7.out.size))
        replace HN1 := Lib.hid (HN1.out.on hb)
        replace HZ3 := Lib.hid (HZ3.out.on hb)
        replace N5 := Lib.hid (N5.out.on hb)
        replace N6 := Lib.hid (N6.out.on hb)
        clear hb hc9 hv9 HV8 HZ8 HM8 q8 HB0 hlen9
        go_wp2_with fail
        refine (T6.out _ _ _ _ _ N5.out I9.out).mono ?_
        rintro e w10 ⟨rfl, hb⟩
        have B10 := Lib.hid (B9.out.trans (hb.mono B9.out.size))
        replace HN1 := Lib.hid (HN1.out.on hb)
        replace HZ3 := Lib.hid (HZ3.out.on hb)
        replace N5 := Lib.hid (N5.out.on hb)
        replace N6 := Lib.hid (N6.out.on hb)
        replace I9 := Lib.hid (I9.out.on hb)
        clear hb T6
        go_wp2_with fail
        refine (T7.out _ _ _ _ _ N6.out I9.out).mono ?_
        rintro e w11 ⟨rfl, hb⟩
        have B11 := Lib.hid (B10.out.trans (hb.mono B10.out.size))
        replace HN1 := Lib.hid (HN1.out.on hb)
        replace HZ3 := Lib.hid (HZ3.out.on hb)
        replace N5 := Lib.hid (N5.out.on hb)
        replace N6 := Lib.hid (N6.out.on hb)
        replace I9 := Lib.hid (I9.out.on hb)
        clear hb T7
        rcases b with _ | _
        · go_wp2
          go_ret
          exact ⟨rfl, B11.out⟩
        · go_wp2
          go_ret
          exact ⟨rfl, B11.out⟩
      · have hc := bad_reason ⟨g.l1, g.l6⟩ hw hwA
        have hvA : verr a0 (z1 ++ [(6, (z1.length : Int) - 1, 0)]) (a2 :: z3) ≠ 0 := fun e => hwA (verr_iff.1 e).2
        have hvB : verr a0 (z1 ++ [(7, (z1.length : Int) - 1, 0)]) (a2 :: z3) ≠ 0 := fun e => hwA (verr_iff.1 e).2
        obtain ⟨q1, hq1⟩ : ∃ q : Int, q = (verr a0 (z1 ++ [(6, (z1.length : Int) - 1, 0)]) (a2 :: z3) : Int) := ⟨_, rfl⟩
        obtain ⟨q2, hq2⟩ : ∃ q : Int, q = (verr a0 (z1 ++ [(7, (z1.length : Int) - 1, 0)]) (a2 :: z3) : Int) := ⟨_, rfl⟩
        have T6 := Lib.hid (fun W A c B cb => holds_is (z := a2 :: z3) hL (by omega) (by rw [hlA]; omega) l6 hlA (.inr ⟨hvA, rfl, rfl⟩) A c B cb W)
        have T7 := Lib.hid (fun W A c B cb => holds_is (z := a2 :: z3) hL (by omega) (by rw [hlA]; omega) l7 hlA (.inr ⟨hvB, rfl, rfl⟩) A c B cb W)
        rw [errV_pos hvA, ← hq1] at T6
        rw [errV_pos hvB, ← hq2] at T7
        have HM := Lib.hid hM
        have HS3 : Hid (∀ x ∈ a2 :: z3, Small x) := fun x hx => by
          rcases List.mem_cons.1 hx with rfl | hx
          · exact ⟨l2, h2⟩
          · exact v3.2 x hx
        rw [hM] at hc
        generalize z1 ++ [(6, (z1.length : Int) - 1, (0 : Int))] = Z6 at *
        generalize z1 ++ [(7, (z1.length : Int) - 1, (0 : Int))] = Z7 at *
        rw [hn] at H6 H7
        rw [hn, hM]
        clear hn hM hv g hw hs s6 s7 l6 l7 g6 g7 hlA hwA hL hbv hvA hvB hq1 hq2
        go_enter Try.func3, Try.ntmps3
        go_wp2_with fail
        refine (HK.out _).mono ?_
        rintro e w2 ⟨rfl, hb⟩
        have B2 := Lib.hid hb
        replace HN1 := Lib.hid (HN1.out.on hb)
        replace HZ3 := Lib.hid (HZ3.out.on hb)
        clear hb HK
        go_wp2_with fail
        refine (HF.out _ _ _ _ _ HN1.out HZ3.out).mono ?_
        rintro e w3 ⟨rfl, hb⟩
        have B3 := Lib.hid (B2.out.trans (hb.mono B2.out.size))
        replace HN1 := Lib.hid (HN1.out.on hb)
        replace HZ3 := Lib.hid (HZ3.out.on hb)
        clear hb HF
        go_wp2_with fail
        refine (H6.out _ _ _ HN1.out).mono ?_
        rintro e w4 ⟨he, hb⟩
        obtain ⟨A5, c5, rfl, N5⟩ := he.out
        have B4 := Lib.hid (B3.out.trans (hb.mono B3.out.size))
        replace HN1 := Lib.hid (HN1.out.on hb)
        replace HZ3 := Lib.hid (HZ3.out.on hb)
        clear hb he H6
        go_wp2_with fail
        refine (H7.out _ _ _ HN1.out).mono ?_
        rintro e w5 ⟨he, hb⟩
        obtain ⟨A6, c6, rfl, N6⟩ := he.out
        have B5 := Lib.hid (B4.out.trans (hb.mono B4.out.size))
        replace HN1 := Lib.hid (HN1.out.on hb)
        replace HZ3 := Lib.hid (HZ3.out.on hb)
        replace N5 := Lib.hid (N5.out.on hb)
        clear hb he H7
        go_wp2_with fail
        refine (P6.out _ _ _ _ _ N5.out (HI.out _ _)).mono ?_
        rintro e w6 ⟨rfl, hb⟩
        have B6 := Lib.hid (B5.out.trans (hb.mono B5.out.size))
        replace HN1 := Lib.hid (HN1.out.on hb)
        replace HZ3 := Lib.hid (HZ3.out.on hb)
        replace N5 := Lib.hid (N5.out.on hb)
        replace N6 := Lib.hid (N6.out.on hb)
        clear hb P6
        go_wp2_with fail
        refine (P7.out _ _ _ _ _ N6.out (HI.out _ _)).mono ?_
        rintro e w7 ⟨rfl, hb⟩
        have B7 := Lib.hid (B6.out.trans (hb.mono B6.out.size))
        replace HN1 := Lib.hid (HN1.out.on hb)
        replace HZ3 := Lib.hid (HZ3.out.on hb)
        replace N5 := Lib.hid (N5.out.on hb)
        replace N6 := Lib.hid (N6.out.on hb)
        clear hb P7
        have HV0 := Lib.hid (nums_nil w7)
        have hV0 := (Below.refl w7.heap.size w7)
        obtain ⟨B0, hB0⟩ : ∃ B0, B0 = w7.heap.size := ⟨_, rfl⟩
        rw [← hB0] at HV0
        have HB0 := Lib.hid hB0
        clear hV0 hB0
        go_wp2_with (at_builtin; refine app_one (by rfl) _ _ (by rfl) (by rfl) HV0.out (by rfl) (by decide) ?_)
        intro v8 w8 hv8
        have HV8 : Hid (Nums B0 w7 [a2] v8 w8) := hv8
        have HZ8 := Lib.hid (nums_keep HV8.out HB0.out HZ3.out)
        have q8 : [a2].length + M ≤ 17592186044416 := by simp; omega
        have HM8 : Hid (Hid (IntsAt w8 w8.heap.size A3 z3)) := HZ8
        clear hv8 HV0
        go_wp2_with (at_builtin; refine app_gen HM (by rfl) _ _ (by rfl) (by rfl) HV8.out (by rfl) HZ8.out q8 ?_)
        intro v9 w9 hv9
        have hb : Below w7.heap.size w7 w9 := by have := hv9.2.1; rw [HB0.out] at this; exact this
        have hv9 : Nums B0 w7 (a2 :: z3) v9 w9 := hv9
        obtain ⟨A9, c9, he9, hc9⟩ := nums_at hv9
        have hlen9 : (a2 :: z3).length = M + 1 := by rw [← HM.out]; rfl
        rw [hlen9] at he9
        subst he9
        have I9 : Hid (IntsAt w9 w9.heap.size A9 (a2 :: z3)) := ⟨hc9, HS3.out⟩
        have B9 := Lib.hid (B7.out.trans (hb.mono B7.out.size))
        replace HN1 := Lib.hid (HN1.out.on hb)
        replace HZ3 := Lib.hid (HZ3.out.on hb)
        replace N5 := Lib.hid (N5.out.on hb)
        replace N6 := Lib.hid (N6.out.on hb)
        clear hb hc9 hv9 HV8 HZ8 HM8 q8 HB0 hlen9
        go_wp2_with fail
        refine (T6.out _ _ _ _ _ N5.out I9.out).mono ?_
        rintro e w10 ⟨rfl, hb⟩
        have B10 := Lib.hid (B9.out.trans (hb.mono B9.out.size))
        replace HN1 := Lib.hid (HN1.out.on hb)
        replace HZ3 := Lib.hid (HZ3.out.on hb)
        replace N5 := Lib.hid (N5.out.on hb)
        replace N6 := Lib.hid (N6.out.on hb)
        replace I9 := Lib.hid (I9.out.on hb)
        clear hb T6
        go_wp2_with fail
        refine (T7.out _ _ _ _ _ N6.out I9.out).mono ?_
        rintro e w11 ⟨rfl, hb⟩
        have B11 := Lib.hid (B10.out.trans (hb.mono B10.out.size))
        replace HN1 := Lib.hid (HN1.out.on hb)
        replace HZ3 := Lib.hid (HZ3.out.on hb)
        replace N5 := Lib.hid (N5.out.on hb)
        replace N6 := Lib.hid (N6.out.on hb)
        replace I9 := Lib.hid (I9.out.on hb)
        clear hb T7
        by_cases c1 : a2 < 0
        · go_wp2
          go_ret
          exact ⟨rfl, B11.out⟩
        by_cases c2 : a0 ≤ a2
        · go_wp2
          go_ret
          exact ⟨rfl, B11.out⟩
        have c3 : (80 : Int) ≤ (M : Int) := by omega
        go_wp2
        go_ret
        exact ⟨rfl, B11.out⟩
    · have e6 := verr_four (z := []) (many_bad g h40 (6, (z1.length : Int) - 1, 0))
      have e7 := verr_four (z := []) (many_bad g h40 (7, (z1.length : Int) - 1, 0))
      have P6 := Lib.hid (fun W A c B cb => holds_is (z := []) hL (by omega) (by simp) l6 (M := 0) rfl (.inr ⟨by rw [e6]; decide, rfl, rfl⟩) A c B cb W)
      have P7 := Lib.hid (fun W A c B cb => holds_is (z := []) hL (by omega) (by simp) l7 (M := 0) rfl (.inr ⟨by rw [e7]; decide, rfl, rfl⟩) A c B cb W)
      rw [e6] at P6
      rw [e7] at P7
      have HI := Lib.hid (fun W B => IntsAt.nil W B none)
      have hn40 : (40 : Int) ≤ (n : Int) := by omega
      generalize z1 ++ [(6, (z1.length : Int) - 1, (0 : Int))] = Z6 at *
      generalize z1 ++ [(7, (z1.length : Int) - 1, (0 : Int))] = Z7 at *
      rw [hn] at H6 H7
      rw [hn, hM]
      clear hn hM hv g hw hs s6 s7 l6 l7 e6 e7 hL hbv h40
      go_enter Try.func3, Try.ntmps3
      go_wp2_with fail
      refine (HK.out _).mono ?_
      rintro e w2 ⟨rfl, hb⟩
      have B2 := Lib.hid hb
      replace HN1 := Lib.hid (HN1.out.on hb)
      replace HZ3 := Lib.hid (HZ3.out.on hb)
      clear hb HK
      go_wp2_with fail
      refine (HF.out _ _ _ _ _ HN1.out HZ3.out).mono ?_
      rintro e w3 ⟨rfl, hb⟩
      have B3 := Lib.hid (B2.out.trans (hb.mono B2.out.size))
      replace HN1 := Lib.hid (HN1.out.on hb)
      replace HZ3 := Lib.hid (HZ3.out.on hb)
      clear hb HF
      go_wp2_with fail
      refine (H6.out _ _ _ HN1.out).mono ?_
      rintro e w4 ⟨he, hb⟩
      obtain ⟨A5, c5, rfl, N5⟩ := he.out
      have B4 := Lib.hid (B3.out.trans (hb.mono B3.out.size))
      replace HN1 := Lib.hid (HN1.out.on hb)
      replace HZ3 := Lib.hid (HZ3.out.on hb)
      clear hb he H6
      go_wp2_with fail
      refine (H7.out _ _ _ HN1.out).mono ?_
      rintro e w5 ⟨he, hb⟩
      obtain ⟨A6, c6, rfl, N6⟩ := he.out
      have B5 := Lib.hid (B4.out.trans (hb.mono B4.out.size))
      replace HN1 := Lib.hid (HN1.out.on hb)
      replace HZ3 := Lib.hid (HZ3.out.on hb)
      replace N5 := Lib.hid (N5.out.on hb)
      clear hb he H7
      go_wp2_with fail
      refine (P6.out _ _ _ _ _ N5.out (HI.out _ _)).mono ?_
      rintro e w6 ⟨rfl, hb⟩
      have B6 := Lib.hid (B5.out.trans (hb.mono B5.out.size))
      replace HN1 := Lib.hid (HN1.out.on hb)
      replace HZ3 := Lib.hid (HZ3.out.on hb)
      replace N5 := Lib.hid (N5.out.on hb)
      replace N6 := Lib.hid (N6.out.on hb)
      clear hb P6
      simp only [errV]
      go_wp2_with fail
      refine (P7.out _ _ _ _ _ N6.out (HI.out _ _)).mono ?_
      rintro e w7 ⟨rfl, hb⟩
      have B7 := Lib.hid (B6.out.trans (hb.mono B6.out.size))
      replace HN1 := Lib.hid (HN1.out.on hb)
      replace HZ3 := Lib.hid (HZ3.out.on hb)
      replace N5 := Lib.hid (N5.out.on hb)
      replace N6 := Lib.hid (N6.out.on hb)
      clear hb P7
      simp only [errV]
      go_wp2
      go_ret
      exact ⟨rfl, B7.out⟩
  · obtain ⟨q, hq⟩ : ∃ q : Int, q = (verr a0 z1 z3 : Int) := ⟨_, rfl⟩
    have HF := Lib.hid (fun W A c B cb => holds_is hL (by omega) (by omega) hn hM (.inr ⟨hv, rfl, rfl⟩) A c B cb W)
    rw [errV_pos hv, ← hq] at HF
    rw [hn, hM]
    clear hv hn hM hq hL
    go_enter Try.func3, Try.ntmps3
    go_wp2_with fail
    refine (HK.out _).mono ?_
    rintro e w2 ⟨rfl, hb⟩
    have B2 := Lib.hid hb
    replace HN1 := Lib.hid (HN1.out.on hb)
    replace HZ3 := Lib.hid (HZ3.out.on hb)
    clear hb HK
    go_wp2_with fail
    refine (HF.out _ _ _ _ _ HN1.out HZ3.out).mono ?_
    rintro e w3 ⟨rfl, hb⟩
    have B3 := Lib.hid (B2.out.trans (hb.mono B2.out.size))
    replace HN1 := Lib.hid (HN1.out.on hb)
    replace HZ3 := Lib.hid (HZ3.out.on hb)
    clear hb HF
    go_wp2
    go_ret
    exact ⟨rfl, B3.out⟩


set_option maxRecDepth 100000 in
theorem lifted (os : Os) (started : os.Started) (H : Type) (enc : TypeId × Value → H) :
    ReturnsInHanded {} Try.checked os 3 .any (Rows.meanNextSpec.pre6 enc Try.prog Try.f3 Rows.meanNextRow.domain false) (Rows.meanNextSpec.post enc Try.prog Try.f3 false true false false) := by
  refine returnsInHanded_of_change_sized (C := Try.checked) own started (by kernel_rfl) Try.func3
    (ChangeSpec.witness6 (enc := enc) (C := Try.checked) false ⟨#[], #[.int .i64 0, .slice none 0 0, .int .i64 0, .slice none 0 0], []⟩ 8 (by kernel_rfl) (by kernel_rfl) (by kernel_rfl) (by kernel_rfl)) ?_
  intro W base args ds gs before hval0 hW hcnd hsz0 _
  have hval : ∀ (j : Nat) t v, Try.f3.params[j]? = some t → args[j]? = some v → Value.okWide Try.prog W .any base t v := hval0
  have hsz : (DataW.weightsEach Try.prog (Try.f3.params.toList ++ Rows.meanNextSpec.plain.varTypes Try.prog) (ds ++ gs)).all (· ≤ reachBytes) = true := hsz0
  have hW' := hW
  obtain ⟨p, q, hA0, hV0, rfl, hfz, hnd⟩ := hW
  have hV : DataW.TrodVars enc Try.prog W (fun _ => true) [] gs q := hV0
  have hA : DataW.TrodAll enc Try.prog W 0 (fun _ => true) true Try.f3.params.toList args.toList ds p := hA0
  rw [Try.params3] at hA hval hsz
  obtain ⟨v0, vs0, d0, ds0, p0, q0, hargs, rfl, rfl, h0, rr0⟩ := trodAll_cons hA
  obtain ⟨v1, vs1, d1, ds1, p1, q1, rfl, rfl, rfl, h1, rr1⟩ := trodAll_cons rr0
  obtain ⟨v2, vs2, d2, ds2, p2, q2, rfl, rfl, rfl, h2, rr2⟩ := trodAll_cons rr1
  obtain ⟨v3, vs3, d3, ds3, p3, q3, rfl, rfl, rfl, h3, rr3⟩ := trodAll_cons rr2
  obtain ⟨rfl, rfl, rfl⟩ := trodAll_nil rr3
  obtain rfl : args = #[v0, v1, v2, v3] := by cases args; simp_all
  obtain ⟨rfl, rfl⟩ := trodVars_none hV
  have k0 := h0
  have lt0 : ∀ x ∈ p0, x.block < W.heap.size := by obtain ⟨m, hm⟩ := k0; exact DataW.trod_lt m _ _ _ hm
  have k1 := h1
  have lt1 : ∀ x ∈ p1, x.block < W.heap.size := by obtain ⟨m, hm⟩ := k1; exact DataW.trod_lt m _ _ _ hm
  have k2 := h2
  have lt2 : ∀ x ∈ p2, x.block < W.heap.size := by obtain ⟨m, hm⟩ := k2; exact DataW.trod_lt m _ _ _ hm
  have k3 := h3
  have lt3 : ∀ x ∈ p3, x.block < W.heap.size := by obtain ⟨m, hm⟩ := k3; exact DataW.trod_lt m _ _ _ hm
  obtain ⟨a0, rfl, rfl, rfl, w0⟩ := open_int Try.underlying3 (hval 0 3 v0 rfl rfl) h0
  obtain ⟨l0, hh0⟩ := bounds_i64 w0
  obtain ⟨A1, c1, z1, rfl, m1, n1, x1, r1⟩ : ∃ (A : Option Addr) (c : Nat) (l : List Fm.Nd), v1 = .slice A l.length c ∧ l.length ≤ c ∧ c ≤ 9223372036854775807 ∧ Fm.NodesAt W W.heap.size A l ∧ l.length ≤ 5864062014634 := by
    obtain ⟨A, len, c, rfl⟩ := okWide_slice Try.underlying22 (hval 1 22 v1 rfl rfl)
    obtain ⟨fuel, hf⟩ := h1
    obtain ⟨A2, c2, l, hcs, q1, q2, q3, q4⟩ := Fm.open_nodes hf
    simp [Value.cells] at hcs
    obtain ⟨rfl, rfl, rfl⟩ := hcs
    refine ⟨_, _, l, rfl, q1, q2, q3, ?_⟩
    rcases q4 with q4 | ⟨es, sp, hd, hl⟩
    · omega
    · have := sized_slice hsz (j := 1) (t := 22) (e := 31) (elems := es) (spare := sp) rfl (by rw [← hd]; rfl) Try.underlying22
      rw [(show Try.prog.bytesOf 31 = 24 by kernel_rfl)] at this
      simp only [reachBytes] at this
      omega
  obtain ⟨a2, rfl, rfl, rfl, w2⟩ := open_int Try.underlying3 (hval 2 3 v2 rfl rfl) h2
  obtain ⟨l2, hh2⟩ := bounds_i64 w2
  obtain ⟨A3, len3, c3, rfl⟩ := okWide_slice Try.underlying23 (hval 3 23 v3 rfl rfl)
  obtain ⟨z3, rfl, x3, r3, m3⟩ : ∃ zs : List Int, len3 = zs.length ∧ IntsAt W W.heap.size A3 zs ∧ zs.length ≤ 17592186043904 ∧ zs.length ≤ c3 := by
    obtain ⟨fuel, hf⟩ := h3
    rcases open_ints Try.underlying23 Try.underlying3 (by kernel_rfl) hf with ⟨hcs, _⟩ | ⟨x, l, c, zs, hcs, _, hl, hm, hz, hx, hcell, hwz⟩
    · simp [Value.cells] at hcs
      obtain ⟨rfl, rfl, rfl⟩ := hcs
      exact ⟨[], rfl, IntsAt.nil _ _ _, by simp, by simp⟩
    · simp [Value.cells] at hcs
      obtain ⟨rfl, rfl, rfl⟩ := hcs
      have hd := congrArg Prod.fst hx
      simp only at hd
      have := sized_slice hsz (j := 3) (t := 23) (e := 3) rfl (by rw [hd]; rfl) Try.underlying23
      rw [(show Try.prog.bytesOf 3 = 8 by kernel_rfl)] at this
      simp only [reachBytes, lits, List.length_map, List.length_take, List.length_drop] at this
      have hz' : zs.length = c3 := by simpa using hz
      exact ⟨zs.take len3, by rw [List.length_take]; omega, intsAt_of_open hcell hwz len3, by rw [List.length_take]; omega, by rw [List.length_take]; omega⟩
  clear hA0 hval0
  refine (walk a0 A1 c1 z1 a2 A3 c3 z3 W l0 hh0 x1 m1 n1 r1 l2 hh2 x3 r3 m3).mono fun e W' ⟨he, bel⟩ => ?_
  subst he
  exact ⟨_, rfl, _, _, _, [], _, [], hW', trodAll_mk1 (shut_bool Try.underlying4 _), (trodAll_cons_mk (Below.trod laidOut (by kernel_rfl) (of_decide_eq_true (by kernel_rfl)) k0 bel lt0) (trodAll_cons_mk (Below.trod laidOut (by kernel_rfl) (of_decide_eq_true (by kernel_rfl)) k1 bel lt1) (trodAll_cons_mk (Below.trod laidOut (by kernel_rfl) (of_decide_eq_true (by kernel_rfl)) k2 bel lt2) (trodAll_cons_mk (Below.trod laidOut (by kernel_rfl) (of_decide_eq_true (by kernel_rfl)) k3 bel lt3) trodAll_mk0)))), rfl, bel.frame _, fun h => by cases h⟩

theorem over : Rows.meanNextRow.holds Try.pinned (OpenSpec.ofChange Rows.meanNextSpec) :=
  OpenClaim.holds_of_wide 3 Try.f3 rfl rfl rfl rfl rfl rfl rfl ⟨rfl, rfl, rfl, rfl, rfl⟩ rfl rfl rfl rfl rfl (by kernel_rfl) Try.func3 (by kernel_rfl)
    (of_decide_eq_true (by kernel_rfl)) (by unfold Func.isWrapper; rw [if_neg (of_decide_eq_false (by kernel_rfl))]; exact ⟨rfl, rfl⟩)
    (fun os started H enc _ => lifted os started H enc)
theorem proved : Rows.MeanNextSaid := over
#print axioms proved
end Go.Proofs.Ytaelgnmklepebaa.meanNext
