/-
  The statement MeanUnfoldsSaid of this seat, proved: for every input the law returns true and its arguments read behind the call as before. Conditions: none but the row's own (each argument within the reach).
-/
import Derived.Test.YtaelgnmklepebaaRows
import Derived.Test.YtaelgnmklepebaaWords
import Derived.WalkKit
import Derived.ProofKit
import Derived.OpenShut
import Derived.ShutString
import Derived.ChangeOld
import Derived.Below
import Derived.SizedLaws
import Derived.Lib.Hide
import Derived.Test.YtaelgnmklepebaaMeanL
import Derived.BigQuiet
import Derived.Deep.QuietTactic
namespace Go.Proofs.Ytaelgnmklepebaa.meanUnfolds
open Go.ChangeShapes Go.WideShapes Go.ChangeAt Go.RowKit Go.IntWalk Go.Proofs.Ytaelgnmklepebaa.Wd
open Go.ChangeMaps (open_string shut_string)
set_option linter.unusedVariables false

theorem own : ownKnob Try.prog.godebug = none := by kernel_rfl
theorem laidOut : laidOutB Try.prog = true := by kernel_rfl
open Go.Proofs.Ytaelgnmklepebaa.Wo Go.Proofs.Ytaelgnmklepebaa.Fm
def lU (n : Nat) (a b : Int) : List Nd := [(8, a, b), (6, (n : Int), 0), (4, a, (n : Int) + 1), (5, b, (n : Int) + 2)]
theorem lU_nd {L : Int} {n : Nat} {a b : Int} (ha : 0 ≤ a ∧ a < (n : Int)) (hb : 0 ≤ b ∧ b < (n : Int)) : ∀ j m, (lU n a b)[j]? = some m → NdGood L (n + j) m := by
  intro j m hj
  rcases j with _ | _ | _ | _ | j
  · simp only [lU, List.getElem?_cons_zero, Option.some.injEq] at hj
    subst hj; exact bin_good (by omega) (by omega) (by omega)
  · simp only [lU, List.getElem?_cons_succ, List.getElem?_cons_zero, Option.some.injEq] at hj
    subst hj; exact un_good (by omega) (by omega)
  · simp only [lU, List.getElem?_cons_succ, List.getElem?_cons_zero, Option.some.injEq] at hj
    subst hj; exact bin_good (by omega) (by omega) (by omega)
  · simp only [lU, List.getElem?_cons_succ, List.getElem?_cons_zero, Option.some.injEq] at hj
    subst hj; exact bin_good (by omega) (by omega) (by omega)
  · simp [lU] at hj
theorem lU_small {n : Nat} {a b : Int} (hn : n ≤ 5864062014634) (ha : 0 ≤ a ∧ a < (n : Int)) (hb : 0 ≤ b ∧ b < (n : Int)) : ∀ m ∈ lU n a b, NdSmall m := by
  intro m hm
  simp only [lU, List.mem_cons, List.not_mem_nil, or_false] at hm
  rcases hm with rfl | rfl | rfl | rfl <;> exact small_nd (by decide) (by omega) (by omega)
theorem lU_same {L : Int} {f : List Nd} {n : Nat} (hn : f.length = n) {a b : Int} (ha : 0 ≤ a ∧ a < (n : Int)) (hb : 0 ≤ b ∧ b < (n : Int)) (g : FGood L (f ++ lU n a b)) {z : List Int} (hz : 0 < z.length) :
    ∃ x, (vec (f ++ lU n a b) z)[n]? = some x ∧ (vec (f ++ lU n a b) z)[n + 3]? = some x := by
  have hl : (f ++ lU n a b).length = n + 4 := by rw [List.length_append, hn]; rfl
  have at_ : ∀ i, (f ++ lU n a b)[n + i]? = (lU n a b)[i]? := fun i => by rw [List.getElem?_append_right (by omega), show n + i - f.length = i by omega]
  have t0 := tre_bin g.nd (i := n + 0) (k := 8) (a := a) (b := b) (by rw [at_]; rfl) (by omega)
  have t1 := tre_un g.nd (i := n + 1) (k := 6) (a := (n : Int)) (by rw [at_]; rfl) (by omega)
  have t2 := tre_bin g.nd (i := n + 2) (k := 4) (a := a) (b := (n : Int) + 1) (by rw [at_]; rfl) (by omega)
  have t3 := tre_bin g.nd (i := n + 3) (k := 5) (a := b) (b := (n : Int) + 2) (by rw [at_]; rfl) (by omega)
  rw [show ((n : Int) + 2).toNat = n + 2 by omega, t2, show ((n : Int) + 1).toNat = n + 1 by omega, t1, Int.toNat_natCast] at t3
  rw [Nat.add_zero] at t0
  rw [t0] at t3
  refine ⟨_, vec_at _ z (by omega), ?_⟩
  rw [vec_at _ z (by omega)]
  unfold vat
  rw [t3, t0]
  exact congrArg some (unfold_until z _ _ hz).symm
def lR (n : Nat) (a b : Int) : List Nd := [(9, a, b), (7, (n : Int), 0), (5, a, (n : Int) + 1), (4, b, (n : Int) + 2)]
theorem lR_nd {L : Int} {n : Nat} {a b : Int} (ha : 0 ≤ a ∧ a < (n : Int)) (hb : 0 ≤ b ∧ b < (n : Int)) : ∀ j m, (lR n a b)[j]? = some m → NdGood L (n + j) m := by
  intro j m hj
  rcases j with _ | _ | _ | _ | j
  · simp only [lR, List.getElem?_cons_zero, Option.some.injEq] at hj
    subst hj; exact bin_good (by omega) (by omega) (by omega)
  · simp only [lR, List.getElem?_cons_succ, List.getElem?_cons_zero, Option.some.injEq] at hj
    subst hj; exact un_good (by omega) (by omega)
  · simp only [lR, List.getElem?_cons_succ, List.getElem?_cons_zero, Option.some.injEq] at hj
    subst hj; exact bin_good (by omega) (by omega) (by omega)
  · simp only [lR, List.getElem?_cons_succ, List.getElem?_cons_zero, Option.some.injEq] at hj
    subst hj; exact bin_good (by omega) (by omega) (by omega)
  · simp [lR] at hj
theorem lR_small {n : Nat} {a b : Int} (hn : n ≤ 5864062014634) (ha : 0 ≤ a ∧ a < (n : Int)) (hb : 0 ≤ b ∧ b < (n : Int)) : ∀ m ∈ lR n a b, NdSmall m := by
  intro m hm
  simp only [lR, List.mem_cons, List.not_mem_nil, or_false] at hm
  rcases hm with rfl | rfl | rfl | rfl <;> exact small_nd (by decide) (by omega) (by omega)
theorem lR_same {L : Int} {f : List Nd} {n : Nat} (hn : f.length = n) {a b : Int} (ha : 0 ≤ a ∧ a < (n : Int)) (hb : 0 ≤ b ∧ b < (n : Int)) (g : FGood L (f ++ lR n a b)) {z : List Int} (hz : 0 < z.length) :
    ∃ x, (vec (f ++ lR n a b) z)[n]? = some x ∧ (vec (f ++ lR n a b) z)[n + 3]? = some x := by
  have hl : (f ++ lR n a b).length = n + 4 := by rw [List.length_append, hn]; rfl
  have at_ : ∀ i, (f ++ lR n a b)[n + i]? = (lR n a b)[i]? := fun i => by rw [List.getElem?_append_right (by omega), show n + i - f.length = i by omega]
  have t0 := tre_bin g.nd (i := n + 0) (k := 9) (a := a) (b := b) (by rw [at_]; rfl) (by omega)
  have t1 := tre_un g.nd (i := n + 1) (k := 7) (a := (n : Int)) (by rw [at_]; rfl) (by omega)
  have t2 := tre_bin g.nd (i := n + 2) (k := 5) (a := a) (b := (n : Int) + 1) (by rw [at_]; rfl) (by omega)
  have t3 := tre_bin g.nd (i := n + 3) (k := 4) (a := b) (b := (n : Int) + 2) (by rw [at_]; rfl) (by omega)
  rw [show ((n : Int) + 2).toNat = n + 2 by omega, t2, show ((n : Int) + 1).toNat = n + 1 by omega, t1, Int.toNat_natCast] at t3
  rw [Nat.add_zero] at t0
  rw [t0] at t3
  refine ⟨_, vec_at _ z (by omega), ?_⟩
  rw [vec_at _ z (by omega)]
  unfold vat
  rw [t3, t0]
  exact congrArg some (unfold_release z _ _ hz).symm
theorem both_bad {L : Int} {f : List Nd} {n : Nat} (hn : f.length = n) {a b : Int} (ha : 0 ≤ a ∧ a < (n : Int)) (hb : 0 ≤ b ∧ b < (n : Int)) (z : List Int) : verr L (f ++ lU n a b) z = 0 ↔ verr L (f ++ lR n a b) z = 0 := by
  subst hn
  rw [verr_iff, verr_iff]
  exact ⟨fun h => ⟨swap_good h.1 rfl (lR_nd ha hb), h.2⟩, fun h => ⟨swap_good h.1 rfl (lU_nd ha hb), h.2⟩⟩

set_option maxRecDepth 100000 in
set_option maxHeartbeats 4000000 in
theorem walk (a0 : Int) (A1 : Option Addr) (c1 : Nat) (z1 : List Fm.Nd) (a2 : Int) (a3 : Int) (A4 : Option Addr) (c4 : Nat) (z4 : List Int) (w : World) (l0 : -9223372036854775808 ≤ a0) (h0 : a0 ≤ 9223372036854775807) (v1 : Fm.NodesAt w w.heap.size A1 z1) (m1 : z1.length ≤ c1) (n1 : c1 ≤ 9223372036854775807) (r1 : z1.length ≤ 5864062014634) (l2 : -9223372036854775808 ≤ a2) (h2 : a2 ≤ 9223372036854775807) (l3 : -9223372036854775808 ≤ a3) (h3 : a3 ≤ 9223372036854775807) (v4 : IntsAt w w.heap.size A4 z4) (r4 : z4.length ≤ 17592186043904) (m4 : z4.length ≤ c4) :
    Calls Try.prog 4 #[.int .i64 a0, .slice A1 z1.length c1, .int .i64 a2, .int .i64 a3, .slice A4 z4.length c4] w fun e w' => e = .returned (.bool true) ∧ Below w.heap.size w w' := by
  have hL : Small a0 := ⟨l0, h0⟩
  have HK := Lib.hid known_any
  have HN1 := Lib.hid v1
  have HZ4 := Lib.hid v4
  obtain ⟨n, hn⟩ : ∃ n, z1.length = n := ⟨_, rfl⟩
  obtain ⟨M, hM⟩ : ∃ M, z4.length = M := ⟨_, rfl⟩
  have hn0 : n ≤ 5864062014634 := by omega
  have HNh := Lib.hid hn
  by_cases c : a2 < 0
  · rw [hn, hM]
    clear hn hM hL
    go_enter Try.func4, Try.ntmps4
    go_wp2_with fail
    refine (HK.out _).mono ?_
    rintro e w2 ⟨rfl, hb⟩
    have B2 := Lib.hid hb
    clear hb HK
    go_wp2
    go_ret
    exact ⟨rfl, B2.out⟩
  have p1 : 0 ≤ a2 := by omega
  by_cases c : (n : Int) ≤ a2
  · rw [hn, hM]
    clear hn hM hL
    go_enter Try.func4, Try.ntmps4
    go_wp2_with fail
    refine (HK.out _).mono ?_
    rintro e w2 ⟨rfl, hb⟩
    have B2 := Lib.hid hb
    clear hb HK
    go_wp2
    go_ret
    exact ⟨rfl, B2.out⟩
  have p2 : a2 < (n : Int) := by omega
  clear c
  by_cases c : a3 < 0
  · rw [hn, hM]
    clear hn hM hL
    go_enter Try.func4, Try.ntmps4
    go_wp2_with fail
    refine (HK.out _).mono ?_
    rintro e w2 ⟨rfl, hb⟩
    have B2 := Lib.hid hb
    clear hb HK
    go_wp2
    go_ret
    exact ⟨rfl, B2.out⟩
  have p3 : 0 ≤ a3 := by omega
  by_cases c : (n : Int) ≤ a3
  · rw [hn, hM]
    clear hn hM hL
    go_enter Try.func4, Try.ntmps4
    go_wp2_with fail
    refine (HK.out _).mono ?_
    rintro e w2 ⟨rfl, hb⟩
    have B2 := Lib.hid hb
    clear hb HK
    go_wp2
    go_ret
    exact ⟨rfl, B2.out⟩
  have p4 : a3 < (n : Int) := by omega
  clear c
  by_cases c : M = 0
  · have cc : ((M : Int) == 0) = true := by subst c; rfl
    rw [hn, hM]
    clear hn hM hL c
    go_enter Try.func4, Try.ntmps4
    go_wp2_with fail
    refine (HK.out _).mono ?_
    rintro e w2 ⟨rfl, hb⟩
    have B2 := Lib.hid hb
    clear hb HK
    go_wp2
    go_ret
    exact ⟨rfl, B2.out⟩
  have cc : ((M : Int) == 0) = false := beq_eq_false_iff_ne.2 (by omega)
  have hz0 : 0 < z4.length := by omega
  have hlU : (z1 ++ lU n a2 a3).length = n + 4 := by rw [List.length_append, hn]; rfl
  have hlR : (z1 ++ lR n a2 a3).length = n + 4 := by rw [List.length_append, hn]; rfl
  have HU := Lib.hid (fun A c W => more_lit (f := z1) (n := n) (k := 4) (by omega) (lU n a2 a3) rfl (by decide) (by omega) hn v1.2 (lU_small hn0 ⟨p1, p2⟩ ⟨p3, p4⟩) #[.int .i64 8, .int .i64 a2, .int .i64 a3, .int .i64 6, .int .i64 (n : Int), .int .i64 0, .int .i64 4, .int .i64 a2, .int .i64 ((n : Int) + 1), .int .i64 5, .int .i64 a3, .int .i64 ((n : Int) + 2)] rfl A c W)
  have HR := Lib.hid (fun A c W => more_lit (f := z1) (n := n) (k := 4) (by omega) (lR n a2 a3) rfl (by decide) (by omega) hn v1.2 (lR_small hn0 ⟨p1, p2⟩ ⟨p3, p4⟩) #[.int .i64 9, .int .i64 a2, .int .i64 a3, .int .i64 7, .int .i64 (n : Int), .int .i64 0, .int .i64 5, .int .i64 a2, .int .i64 ((n : Int) + 1), .int .i64 4, .int .i64 a3, .int .i64 ((n : Int) + 2)] rfl A c W)
  have hz4 : z4.length ≤ 17592186044416 := by omega
  by_cases hv : verr a0 (z1 ++ lU n a2 a3) z4 = 0
  · have hv2 := (both_bad (L := a0) hn ⟨p1, p2⟩ ⟨p3, p4⟩ z4).1 hv
    obtain ⟨x, hx1, hx2⟩ := lU_same hn ⟨p1, p2⟩ ⟨p3, p4⟩ (verr_iff.1 hv).1 hz0
    obtain ⟨y, hy1, hy2⟩ := lR_same hn ⟨p1, p2⟩ ⟨p3, p4⟩ (verr_iff.1 hv2).1 hz0
    have VU := Lib.hid (values_yes hL hlU hM hv)
    have VR := Lib.hid (values_yes hL hlR hM hv2)
    have VX := Lib.hid (And.intro (vec_length (z1 ++ lU n a2 a3) z4 |>.trans hlU) (And.intro hx1 hx2))
    have VY := Lib.hid (And.intro (vec_length (z1 ++ lR n a2 a3) z4 |>.trans hlR) (And.intro hy1 hy2))
    rw [hn, hM]
    clear hn hM hL hv hv2 hlU hlR hx1 hx2 hy1 hy2 hz0 hz4 v1 c
    generalize z1 ++ lU n a2 a3 = ZU at *
    generalize z1 ++ lR n a2 a3 = ZR at *
    go_enter Try.func4, Try.ntmps4
    go_wp2_with fail
    refine (HK.out _).mono ?_
    rintro e w2 ⟨rfl, hb⟩
    have B2 := Lib.hid hb
    replace HN1 := Lib.hid (HN1.out.on hb)
    replace HZ4 := Lib.hid (HZ4.out.on hb)
    clear hb HK
    go_wp2_with fail
    refine (HU.out _ _ _ HN1.out).mono ?_
    rintro e w3 ⟨he, hb⟩
    obtain ⟨A5, c5, rfl, N5⟩ := he.out
    have B3 := Lib.hid (B2.out.trans (hb.mono B2.out.size))
    replace HN1 := Lib.hid (HN1.out.on hb)
    replace HZ4 := Lib.hid (HZ4.out.on hb)
    clear hb he HU
    go_wp2_with fail
    refine (HR.out _ _ _ HN1.out).mono ?_
    rintro e w4 ⟨he, hb⟩
    obtain ⟨A6, c6, rfl, N6⟩ := he.out
    have B4 := Lib.hid (B3.out.trans (hb.mono B3.out.size))
    replace HN1 := Lib.hid (HN1.out.on hb)
    replace HZ4 := Lib.hid (HZ4.out.on hb)
    replace N5 := Lib.hid (N5.out.on hb)
    clear hb he HR
    go_wp2_with fail
    refine (VU.out _ _ _ _ _ N5.out HZ4.out).mono ?_
    rintro e w5 he
    obtain ⟨gx, rfl, hox⟩ := he.out
    have hb := hox.below
    have X1 := row_cell hox VX.out.1 VX.out.2.1
    have X2 := row_cell hox VX.out.1 VX.out.2.2
    have hgx := World.block_lt_of_cell? _ _ X1
    have B5 := Lib.hid (B4.out.trans (hb.mono B4.out.size))
    replace HN1 := Lib.hid (HN1.out.on hb)
    replace HZ4 := Lib.hid (HZ4.out.on hb)
    replace N5 := Lib.hid (N5.out.on hb)
    replace N6 := Lib.hid (N6.out.on hb)
    clear hb he hox VU
    go_wp2_with fail
    refine (VR.out _ _ _ _ _ N6.out HZ4.out).mono ?_
    rintro e w6 he
    obtain ⟨gy, rfl, hoy⟩ := he.out
    have hb := hoy.below
    have Y1 := row_cell hoy VY.out.1 VY.out.2.1
    have Y2 := row_cell hoy VY.out.1 VY.out.2.2
    replace X1 := (hb.cell (p := ⟨gx, n, none⟩) hgx).trans X1
    replace X2 := (hb.cell (p := ⟨gx, n + 3, none⟩) hgx).trans X2
    have B6 := Lib.hid (B5.out.trans (hb.mono B5.out.size))
    replace HN1 := Lib.hid (HN1.out.on hb)
    replace HZ4 := Lib.hid (HZ4.out.on hb)
    replace N5 := Lib.hid (N5.out.on hb)
    replace N6 := Lib.hid (N6.out.on hb)
    clear hb he hoy VR hgx
    have q1 : IntKind.i64.wrap ((n : Int) + 3) = (n : Int) + 3 := IntWalk.i64_in _ ⟨by omega, by omega⟩
    have q2 : IntKind.i64.wrap ((n : Int) + 4) = (n : Int) + 4 := IntWalk.i64_in _ ⟨by omega, by omega⟩
    have q3 : 0 ≤ (n : Int) + 3 := by omega
    have q4 : (n : Int) < (n : Int) + 4 := by omega
    have q5 : (n : Int) + 3 < (n : Int) + 4 := by omega
    go_wp2_with fail
    go_region
    go_wp2
    go_ret
    exact ⟨rfl, below_drewN B6.out _⟩
  · have hv2 : verr a0 (z1 ++ lR n a2 a3) z4 ≠ 0 := fun e => hv ((both_bad hn ⟨p1, p2⟩ ⟨p3, p4⟩ z4).2 e)
    obtain ⟨q1, hq1⟩ : ∃ q : Int, q = (verr a0 (z1 ++ lU n a2 a3) z4 : Int) := ⟨_, rfl⟩
    obtain ⟨q2, hq2⟩ : ∃ q : Int, q = (verr a0 (z1 ++ lR n a2 a3) z4 : Int) := ⟨_, rfl⟩
    have VU := Lib.hid (values_no hL (by omega) hz4 hlU hM hv)
    have VR := Lib.hid (values_no hL (by omega) hz4 hlR hM hv2)
    rw [errV_pos hv, ← hq1] at VU
    rw [errV_pos hv2, ← hq2] at VR
    rw [hn, hM]
    clear hn hM hL hv hv2 hlU hlR hz0 hz4 v1 c hq1 hq2
    generalize z1 ++ lU n a2 a3 = ZU at *
    generalize z1 ++ lR n a2 a3 = ZR at *
    go_enter Try.func4, Try.ntmps4
    go_wp2_with fail
    refine (HK.out _).mono ?_
    rintro e w2 ⟨rfl, hb⟩
    have B2 := Lib.hid hb
    replace HN1 := Lib.hid (HN1.out.on hb)
    replace HZ4 := Lib.hid (HZ4.out.on hb)
    clear hb HK
    go_wp2_with fail
    refine (HU.out _ _ _ HN1.out).mono ?_
    rintro e w3 ⟨he, hb⟩
    obtain ⟨A5, c5, rfl, N5⟩ := he.out
    have B3 := Lib.hid (B2.out.trans (hb.mono B2.out.size))
    replace HN1 := Lib.hid (HN1.out.on hb)
    replace HZ4 := Lib.hid (HZ4.out.on hb)
    clear hb he HU
    go_wp2_with fail
    refine (HR.out _ _ _ HN1.out).mono ?_
    rintro e w4 ⟨he, hb⟩
    obtain ⟨A6, c6, rfl, N6⟩ := he.out
    have B4 := Lib.hid (B3.out.trans (hb.mono B3.out.size))
    replace HN1 := Lib.hid (HN1.out.on hb)
    replace HZ4 := Lib.hid (HZ4.out.on hb)
    replace N5 := Lib.hid (N5.out.on hb)
    clear hb he HR
    go_wp2_with fail
    refine (VU.out _ _ _ _ _ N5.out HZ4.out).mono ?_
    rintro e w5 ⟨rfl, hb⟩
    have B5 := Lib.hid (B4.out.trans (hb.mono B4.out.size))
    replace HN1 := Lib.hid (HN1.out.on hb)
    replace HZ4 := Lib.hid (HZ4.out.on hb)
    replace N5 := Lib.hid (N5.out.on hb)
    replace N6 := Lib.hid (N6.out.on hb)
    clear hb VU
    go_wp2_with fail
    refine (VR.out _ _ _ _ _ N6.out HZ4.out).mono ?_
    rintro e w6 ⟨rfl, hb⟩
    have B6 := Lib.hid (B5.out.trans (hb.mono B5.out.size))
    replace HN1 := Lib.hid (HN1.out.on hb)
    replace HZ4 := Lib.hid (HZ4.out.on hb)
    replace N5 := Lib.hid (N5.out.on hb)
    replace N6 := Lib.hid (N6.out.on hb)
    clear hb VR
    go_wp2
    go_ret
    exact ⟨rfl, B6.out⟩


set_option maxRecDepth 100000 in
theorem lifted (os : Os) (started : os.Started) (H : Type) (enc : TypeId × Value → H) :
    ReturnsInHanded {} Try.checked os 4 .any (Rows.meanUnfoldsSpec.pre6 enc Try.prog Try.f4 Rows.meanUnfoldsRow.domain false) (Rows.meanUnfoldsSpec.post enc Try.prog Try.f4 false true false false) := by
  refine returnsInHanded_of_change_sized (C := Try.checked) own started (by kernel_rfl) Try.func4
    (ChangeSpec.witness6 (enc := enc) (C := Try.checked) false ⟨#[], #[.int .i64 0, .slice none 0 0, .int .i64 0, .int .i64 0, .slice none 0 0], []⟩ 8 (by kernel_rfl) (by kernel_rfl) (by kernel_rfl) (by kernel_rfl)) ?_
  intro W base args ds gs before hval0 hW hcnd hsz0 _
  have hval : ∀ (j : Nat) t v, Try.f4.params[j]? = some t → args[j]? = some v → Value.okWide Try.prog W .any base t v := hval0
  have hsz : (DataW.weightsEach Try.prog (Try.f4.params.toList ++ Rows.meanUnfoldsSpec.plain.varTypes Try.prog) (ds ++ gs)).all (· ≤ reachBytes) = true := hsz0
  have hW' := hW
  obtain ⟨p, q, hA0, hV0, rfl, hfz, hnd⟩ := hW
  have hV : DataW.TrodVars enc Try.prog W (fun _ => true) [] gs q := hV0
  have hA : DataW.TrodAll enc Try.prog W 0 (fun _ => true) true Try.f4.params.toList args.toList ds p := hA0
  rw [Try.params4] at hA hval hsz
  obtain ⟨v0, vs0, d0, ds0, p0, q0, hargs, rfl, rfl, h0, rr0⟩ := trodAll_cons hA
  obtain ⟨v1, vs1, d1, ds1, p1, q1, rfl, rfl, rfl, h1, rr1⟩ := trodAll_cons rr0
  obtain ⟨v2, vs2, d2, ds2, p2, q2, rfl, rfl, rfl, h2, rr2⟩ := trodAll_cons rr1
  obtain ⟨v3, vs3, d3, ds3, p3, q3, rfl, rfl, rfl, h3, rr3⟩ := trodAll_cons rr2
  obtain ⟨v4, vs4, d4, ds4, p4, q4, rfl, rfl, rfl, h4, rr4⟩ := trodAll_cons rr3
  obtain ⟨rfl, rfl, rfl⟩ := trodAll_nil rr4
  obtain rfl : args = #[v0, v1, v2, v3, v4] := by cases args; simp_all
  obtain ⟨rfl, rfl⟩ := trodVars_none hV
  have k0 := h0
  have lt0 : ∀ x ∈ p0, x.block < W.heap.size := by obtain ⟨m, hm⟩ := k0; exact DataW.trod_lt m _ _ _ hm
  have k1 := h1
  have lt1 : ∀ x ∈ p1, x.block < W.heap.size := by obtain ⟨m, hm⟩ := k1; exact DataW.trod_lt m _ _ _ hm
  have k2 := h2
  have lt2 : ∀ x ∈ p2, x.block < W.heap.size := by obtain ⟨m, hm⟩ := k2; exact DataW.trod_lt m _ _ _ hm
  have k3 := h3
  have lt3 : ∀ x ∈ p3, x.block < W.heap.size := by obtain ⟨m, hm⟩ := k3; exact DataW.trod_lt m _ _ _ hm
  have k4 := h4
  have lt4 : ∀ x ∈ p4, x.block < W.heap.size := by obtain ⟨m, hm⟩ := k4; exact DataW.trod_lt m _ _ _ hm
  obtain ⟨a0, rfl, rfl, rfl, w0⟩ := open_int Try.underlying3 (hval 0 3 v0 rfl rfl) h0
  obtain ⟨l0, hh0⟩ := bounds_i64 w0
  obtain ⟨A1, c1, z1, rfl, m1, n1, x1, r1⟩ : ∃ (A : Option Addr) (c : Nat) (l : List Fm.Nd), v1 = .slice A l.length c ∧ l.length ≤ c ∧ c ≤ 9223372036854775807 ∧ Fm.NodesAt W W.heap.size A l ∧ l.length ≤ 5864062014634 := by
    obtain ⟨A, len, c, rfl⟩ := okWide_slice Try.underlying22 (hval 1 22 v1 rfl rfl)
    obtain ⟨fuel, hf⟩ := h1
    obtain ⟨A2, c2, l, hcs, q1, q2, q3, q4⟩ := Fm.open_nodes hf
    simp [Value.cells] at hcs
    obtain ⟨rfl, rfl, rfl⟩ := hcs
    refine ⟨_, _, l, rfl, q1, q2, q3, ?_⟩
    rcases q4 with q4 | ⟨es, sp, hd, hl⟩
    · omega
    · have := sized_slice hsz (j := 1) (t := 22) (e := 31) (elems := es) (spare := sp) rfl (by rw [← hd]; rfl) Try.underlying22
      rw [(show Try.prog.bytesOf 31 = 24 by kernel_rfl)] at this
      simp only [reachBytes] at this
      omega
  obtain ⟨a2, rfl, rfl, rfl, w2⟩ := open_int Try.underlying3 (hval 2 3 v2 rfl rfl) h2
  obtain ⟨l2, hh2⟩ := bounds_i64 w2
  obtain ⟨a3, rfl, rfl, rfl, w3⟩ := open_int Try.underlying3 (hval 3 3 v3 rfl rfl) h3
  obtain ⟨l3, hh3⟩ := bounds_i64 w3
  obtain ⟨A4, len4, c4, rfl⟩ := okWide_slice Try.underlying23 (hval 4 23 v4 rfl rfl)
  obtain ⟨z4, rfl, x4, r4, m4⟩ : ∃ zs : List Int, len4 = zs.length ∧ IntsAt W W.heap.size A4 zs ∧ zs.length ≤ 17592186043904 ∧ zs.length ≤ c4 := by
    obtain ⟨fuel, hf⟩ := h4
    rcases open_ints Try.underlying23 Try.underlying3 (by kernel_rfl) hf with ⟨hcs, _⟩ | ⟨x, l, c, zs, hcs, _, hl, hm, hz, hx, hcell, hwz⟩
    · simp [Value.cells] at hcs
      obtain ⟨rfl, rfl, rfl⟩ := hcs
      exact ⟨[], rfl, IntsAt.nil _ _ _, by simp, by simp⟩
    · simp [Value.cells] at hcs
      obtain ⟨rfl, rfl, rfl⟩ := hcs
      have hd := congrArg Prod.fst hx
      simp only at hd
      have := sized_slice hsz (j := 4) (t := 23) (e := 3) rfl (by rw [hd]; rfl) Try.underlying23
      rw [(show Try.prog.bytesOf 3 = 8 by kernel_rfl)] at this
      simp only [reachBytes, lits, List.length_map, List.length_take, List.length_drop] at this
      have hz' : zs.length = c4 := by simpa using hz
      exact ⟨zs.take len4, by rw [List.length_take]; omega, intsAt_of_open hcell hwz len4, by rw [List.length_take]; omega, by rw [List.length_take]; omega⟩
  clear hA0 hval0
  refine (walk a0 A1 c1 z1 a2 a3 A4 c4 z4 W l0 hh0 x1 m1 n1 r1 l2 hh2 l3 hh3 x4 r4 m4).mono fun e W' ⟨he, bel⟩ => ?_
  subst he
  exact ⟨_, rfl, _, _, _, [], _, [], hW', trodAll_mk1 (shut_bool Try.underlying4 _), (trodAll_cons_mk (Below.trod laidOut (by kernel_rfl) (of_decide_eq_true (by kernel_rfl)) k0 bel lt0) (trodAll_cons_mk (Below.trod laidOut (by kernel_rfl) (of_decide_eq_true (by kernel_rfl)) k1 bel lt1) (trodAll_cons_mk (Below.trod laidOut (by kernel_rfl) (of_decide_eq_true (by kernel_rfl)) k2 bel lt2) (trodAll_cons_mk (Below.trod laidOut (by kernel_rfl) (of_decide_eq_true (by kernel_rfl)) k3 bel lt3) (trodAll_cons_mk (Below.trod laidOut (by kernel_rfl) (of_decide_eq_true (by kernel_rfl)) k4 bel lt4) trodAll_mk0))))), rfl, bel.frame _, fun h => by cases h⟩

theorem over : Rows.meanUnfoldsRow.holds Try.pinned (OpenSpec.ofChange Rows.meanUnfoldsSpec) :=
  OpenClaim.holds_of_wide 4 Try.f4 rfl rfl rfl rfl rfl rfl rfl ⟨rfl, rfl, rfl, rfl, rfl⟩ rfl rfl rfl rfl rfl (by kernel_rfl) Try.func4 (by kernel_rfl)
    (of_decide_eq_true (by kernel_rfl)) (by unfold Func.isWrapper; rw [if_neg (of_decide_eq_false (by kernel_rfl))]; exact ⟨rfl, rfl⟩)
    (fun os started H enc _ => lifted os started H enc)
theorem proved : Rows.MeanUnfoldsSaid := over
#print axioms proved
end Go.Proofs.Ytaelgnmklepebaa.meanUnfolds
