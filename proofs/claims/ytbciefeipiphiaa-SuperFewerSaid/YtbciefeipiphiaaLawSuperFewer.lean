/-
  The statement SuperFewerSaid of this seat, proved: for every input the law returns true and its arguments read behind the call as before. Conditions: none but the row's own (each argument within the reach).
-/
import Derived.Test.YtbciefeipiphiaaRows
import Derived.Test.YtbciefeipiphiaaWords
import Derived.WalkKit
import Derived.ProofKit
import Derived.OpenShut
import Derived.ShutString
import Derived.ChangeOld
import Derived.Below
import Derived.SizedLaws
import Derived.Lib.Hide
import Derived.Test.YtbciefeipiphiaaSuperL
namespace Go.Proofs.Ytbciefeipiphiaa.superFewer
open Go.ChangeShapes Go.WideShapes Go.ChangeAt Go.RowKit Go.IntWalk Go.Proofs.Ytbciefeipiphiaa.Wd
open Go.ChangeMaps (open_string shut_string)
set_option linter.unusedVariables false

theorem own : ownKnob Try.prog.godebug = none := by kernel_rfl
theorem laidOut : laidOutB Try.prog = true := by kernel_rfl
open Go.Proofs.Ytbciefeipiphiaa.Wo Go.Proofs.Ytbciefeipiphiaa.Df Go.Proofs.Ytbciefeipiphiaa.Rc Go.Proofs.Ytbciefeipiphiaa.Sm Go.Proofs.Ytbciefeipiphiaa.Mp Go.Proofs.Ytbciefeipiphiaa.Sa Go.Proofs.Ytbciefeipiphiaa.Su
theorem supI_zero {P S : Aut} {f f' : Int} {r r' : Aut} {E : Nat} (h : SupI P S f r 0) (h' : SupI P S f' r' E) (hp : plantE P S f' = 0) (hs : ∃ w, Word P.L w ∧ sup P S f' w) : E = 0 := by
  have hf : ∃ l, found (S2 P S) (start2 P S) = some l := by
    rcases h with ⟨a1, a2, _⟩ | ⟨_, _, a3, _⟩ | ⟨_, _, a3, _⟩ | ⟨_, a2, _⟩
    · exact absurd a2.symm a1
    · cases a3
    · cases a3
    · exact a2
  obtain ⟨l, hl⟩ := hf
  obtain ⟨w, hw, hs⟩ := hs
  rcases h' with ⟨a1, _⟩ | ⟨_, a2, _⟩ | ⟨_, _, _, _, a5⟩ | ⟨_, _, a3, _⟩
  · exact absurd hp a1
  · rw [hl] at a2; cases a2
  · exact absurd hs (a5 w hw)
  · exact a3
theorem has_and (n m : Nat) (a : Int) (h : has ((n &&& m : Nat) : Int) a = true) : has (n : Int) a = true := by
  unfold has at *
  rw [Int.toNat_natCast] at *
  have h1 : (n &&& m).testBit a.toNat = true := by rw [Nat.testBit_eq_decide_div_mod_eq]; simpa using h
  rw [Nat.testBit_and, Bool.and_eq_true] at h1
  have h2 := h1.1
  rw [Nat.testBit_eq_decide_div_mod_eq] at h2
  simpa using h2
theorem has_zero (a : Int) : has 0 a = false := by unfold has; simp
theorem plantE_in {P S : Aut} (g : Good2 P S) {f : Int} (h : setOk P.L f) : plantE P S f = 0 := by
  unfold plantE
  rw [if_neg (by have := chkD2_iff.2 g; omega), if_pos h]

set_option maxRecDepth 100000 in
set_option maxHeartbeats 16000000 in
theorem walk (v0 : Value) (d0 : Df.Aut) (v1 : Value) (d1 : Df.Aut) (a2 : Int) (a3 : Int) (A4 : Option Addr) (c4 : Nat) (z4 : List Int) (w : World) (h0 : Df.DfaAt w w.heap.size v0 d0) (h1 : Df.DfaAt w w.heap.size v1 d1) (l2 : -9223372036854775808 ≤ a2) (h2 : a2 ≤ 9223372036854775807) (l3 : -9223372036854775808 ≤ a3) (h3 : a3 ≤ 9223372036854775807) (v4 : IntsAt w w.heap.size A4 z4) (r4 : z4.length ≤ 17592186043904) (m4 : z4.length ≤ c4) :
    Calls Try.prog 5 #[v0, v1, .int .i64 a2, .int .i64 a3, .slice A4 z4.length c4] w fun e w' => e = .returned (.bool true) ∧ Below w.heap.size w w' := by
  have hr : z4.length ≤ 17592186044416 := by omega
  obtain ⟨L0, s0, A0, n0, c0, F0, m0, k0, rfl⟩ := h0.form
  have hN0 := h0.eqs.2.2.1
  obtain ⟨L1, s1, A1, n1, c1, F1, m1, k1, rfl⟩ := h1.form
  have hN1 := h1.eqs.2.2.1
  obtain ⟨u0, hu0, hb0, VA0, VB0⟩ := vars_two w h0 h1
  have VA := Lib.hid VA0
  have VB := Lib.hid VB0
  have B := Lib.hid hb0
  have W0 := Lib.hid hu0
  have HN0 := Lib.hid hN0
  have HN1 := Lib.hid hN1
  have Z := Lib.hid (v4.on hb0)
  clear VA0 hb0 hu0 h0 hN0 VB0 h1 hN1 v4
  clear m4 r4 HN0 HN1
  have hL0 : d0.L = L0 := VA.out.at_.eqs.1
  have HK := Lib.hid superFact_any
  by_cases ga : accErr d0 z4 = 0
  · obtain ⟨Ga, fa⟩ := accErr_good ga
    by_cases gb : accErr d1 z4 = 0
    · obtain ⟨Gb, fb⟩ := accErr_good gb
      obtain ⟨x, hx⟩ : ∃ x, accA d0 z4 = x := ⟨_, rfl⟩
      obtain ⟨y, hy⟩ : ∃ y, accA d1 z4 = y := ⟨_, rfl⟩
      have HX := Lib.hid (fun W v (h : DfaAt W W.heap.size v d0) (hZ : IntsAt W W.heap.size A4 z4) => acc_gives (cz := c4) (b := x) (E := .nilIface) h hZ hr ((accOut_ok Ga fa).trans hx) (congrArg errV (accErr_ok Ga fa)))
      have HY := Lib.hid (fun W v (h : DfaAt W W.heap.size v d1) (hZ : IntsAt W W.heap.size A4 z4) => acc_gives (cz := c4) (b := y) (E := .nilIface) h hZ hr ((accOut_ok Gb fb).trans hy) (congrArg errV (accErr_ok Gb fb)))
      have fw := fine_word fa
      obtain ⟨r0, k00, hs0⟩ := supI_ex d0 d1 0
      have hl1 : 1 ≤ L0 := by have := Ga.l1; omega
      have hl6 : L0 ≤ 6 := by have := Ga.l6; omega
      obtain ⟨PW, hPW, y1, y2, y3⟩ := shl_lim hl1 hl6
      have HOut : Hid (∀ W v z, DfaAt W W.heap.size v d0 → DfaAt W W.heap.size z d1 → 0 ≤ a2 → a2 < PW → 0 ≤ a3 → True) := fun _ _ _ _ _ _ _ _ => trivial
      clear HOut
      have hr1 := supI_ex d0 d1 a2
      rcases supI_two hs0 with ⟨rfl, ho0⟩ | ⟨hk0, rfl⟩
      · have h1 : accA r0 z4 = (x && y) := by
          rw [← hx, ← hy]
          refine Bool.eq_iff_iff.2 ?_
          rw [Bool.and_eq_true]
          exact (ho0.is z4 fw).trans (sup_free (fun a _ _ => has_zero a) fw)
        have f0 : Wo.Fine r0.L z4 := by rw [ho0.eL]; exact fa
        have hyy : (y != y) = false := bne_self_eq_false y
        have HM0 := Lib.hid (fun W v z (h : DfaAt W W.heap.size v d0) (h2 : DfaAt W W.heap.size z d1) => smake_gives (E := .nilIface) h h2 hs0 rfl)
        have HZ := Lib.hid (fun W v (h : DfaAt W W.heap.size v r0) (hZ : IntsAt W W.heap.size A4 z4) => acc_gives (cz := c4) (b := (x && y)) (E := .nilIface) h hZ hr ((accOut_ok ho0.gr f0).trans h1) (congrArg errV (accErr_ok ho0.gr f0)))
        clear h1 f0
        by_cases n1 : a2 < 0 ∨ PW ≤ a2 ∨ a3 < 0
        · clear ga Ga fa gb Gb fb fw hx hy hr1 hs0 hr hL0 ho0 y1
          rcases (show a2 < 0 ∨ (0 ≤ a2 ∧ PW ≤ a2) ∨ (0 ≤ a2 ∧ a2 < PW ∧ a3 < 0) by omega) with n2 | ⟨n2, n3⟩ | ⟨n2, n3, n4⟩ <;> rcases x with _ | _
          all_goals clear n1
          all_goals as_aux_lemma =>
            go_enter Try.func5, Try.ntmps5
            go_wp2_with fail
            rw [← W0.out]
            clear W0
            refine (HK.out _).mono ?_
            rintro e u1 ⟨rfl, hb⟩
            have Z := Lib.hid (Z.out.on hb)
            have VA := Lib.hid (VA.out.on hb)
            have VB := Lib.hid (VB.out.on hb)
            have B := Lib.hid (B.out.trans (hb.mono B.out.size))
            clear hb  HK
            obtain ⟨p0, p1, p2, p3, p4⟩ := VA.out.box
            go_wp2_with fail
            refine (HX.out _ _ VA.out.at_ Z.out).mono ?_
            rintro e u2 ⟨rfl, hb⟩
            have Z := Lib.hid (Z.out.on hb)
            have VA := Lib.hid (VA.out.on hb)
            have VB := Lib.hid (VB.out.on hb)
            have B := Lib.hid (B.out.trans (hb.mono B.out.size))
            clear hb p0 p1 p2 p3 p4 HX
            obtain ⟨p0, p1, p2, p3, p4⟩ := VB.out.box
            go_wp2_with fail
            refine (HY.out _ _ VB.out.at_ Z.out).mono ?_
            rintro e u3 ⟨rfl, hb⟩
            have Z := Lib.hid (Z.out.on hb)
            have VA := Lib.hid (VA.out.on hb)
            have VB := Lib.hid (VB.out.on hb)
            have B := Lib.hid (B.out.trans (hb.mono B.out.size))
            clear hb p0 p1 p2 p3 p4 HY
            obtain ⟨p0, p1, p2, p3, p4⟩ := VA.out.box
            obtain ⟨q0, q1, q2, q3, q4⟩ := VB.out.box
            go_wp2_with fail
            refine (HM0.out _ _ _ VA.out.at_ VB.out.at_).mono ?_
            rintro e u4 ⟨L14, s14, A14, n14, c14, F14, m14, k14, rfl, hd, hb⟩
            have Z := Lib.hid (Z.out.on hb)
            have VA := Lib.hid (VA.out.on hb)
            have VB := Lib.hid (VB.out.on hb)
            have B := Lib.hid (B.out.trans (hb.mono B.out.size))
            clear hb p0 p1 p2 p3 p4 q0 q1 q2 q3 q4 HM0
            obtain ⟨x4, hx4, hbn, Vn⟩ := var_new u4 hd.out
            have VX := Lib.hid Vn
            have Z := Lib.hid (Z.out.on hbn)
            have VA := Lib.hid (VA.out.on hbn)
            have VB := Lib.hid (VB.out.on hbn)
            have B := Lib.hid (B.out.trans (hbn.mono B.out.size))
            clear hbn Vn hd
            obtain ⟨p0, p1, p2, p3, p4⟩ := VX.out.box
            rw [hx4] at p1 p2 p3 p4
            have HX := Lib.hid hx4
            clear hx4
            go_wp2_with fail
            rw [← HX.out]
            clear HX
            refine (HZ.out _ _ VX.out.at_ Z.out).mono ?_
            rintro e u5 ⟨rfl, hb⟩
            have Z := Lib.hid (Z.out.on hb)
            have VA := Lib.hid (VA.out.on hb)
            have VB := Lib.hid (VB.out.on hb)
            have VX := Lib.hid (VX.out.on hb)
            have B := Lib.hid (B.out.trans (hb.mono B.out.size))
            clear hb p0 p1 p2 p3 p4 HZ
            obtain ⟨p0, p1, p2, p3, p4⟩ := VA.out.box
            obtain ⟨q0, q1, q2, q3, q4⟩ := VB.out.box
            go_wp2
            go_ret
            exact ⟨rfl, B.out⟩
        · obtain ⟨r1, k1, hs1⟩ := hr1
          have n2 : 0 ≤ a2 := by omega
          have n3 : a2 < PW := by omega
          have n4 : 0 ≤ a3 := by omega
          obtain ⟨f, hf⟩ := Int.eq_ofNat_of_zero_le n2
          obtain ⟨f3, hf3⟩ := Int.eq_ofNat_of_zero_le n4
          have hle : f &&& f3 ≤ f := Nat.and_le_left
          have hand : bits .and .i64 a2 a3 = ((f &&& f3 : Nat) : Int) := by rw [hf, hf3]; exact and_nat f f3 (by omega) (by omega)
          have hset : setOk d0.L ((f &&& f3 : Nat) : Int) := by
            unfold setOk
            rw [hL0, y1]
            omega
          have hsub : ∀ a, 0 ≤ a → a < d0.L → has ((f &&& f3 : Nat) : Int) a = true → has a2 a = true := fun a _ _ h => by rw [hf]; exact has_and f f3 a h
          obtain ⟨FF, hFF⟩ : ∃ FF : Int, FF = ((f &&& f3 : Nat) : Int) := ⟨_, rfl⟩
          rw [← hFF] at hand hset hsub
          obtain ⟨r2, k2, hs2⟩ := supI_ex d0 d1 FF
          rcases supI_two hs1 with ⟨rfl, ho1⟩ | ⟨hk1, rfl⟩
          · obtain rfl : k2 = 0 := by
              refine supI_zero hs1 hs2 (plantE_in ho1.g hset) ?_
              obtain ⟨u, hu, hau⟩ := ho1.ex
              exact ⟨u, hu, sup_fewer hsub ((ho1.is u hu).1 hau)⟩
            have ho2 : SupOk d0 d1 FF r2 := by
              rcases supI_two hs2 with ⟨_, h⟩ | ⟨h, _⟩
              · exact h
              · exact absurd rfl h
            obtain ⟨p, hp⟩ : ∃ p, accA r1 z4 = p := ⟨_, rfl⟩
            obtain ⟨q, hq⟩ : ∃ q, accA r2 z4 = q := ⟨_, rfl⟩
            have hpq : p = true → q = true := fun h => by
              rw [← hq]
              exact (ho2.is z4 fw).2 (sup_fewer hsub ((ho1.is z4 fw).1 (hp.trans h)))
            have f1 : Wo.Fine r1.L z4 := by rw [ho1.eL]; exact fa
            have f2 : Wo.Fine r2.L z4 := by rw [ho2.eL]; exact fa
            have HM1 := Lib.hid (fun W v z (h : DfaAt W W.heap.size v d0) (h2 : DfaAt W W.heap.size z d1) => smake_gives (E := .nilIface) h h2 hs1 rfl)
            have HM2 := Lib.hid (fun W v z (h : DfaAt W W.heap.size v d0) (h2 : DfaAt W W.heap.size z d1) => smake_gives (E := .nilIface) h h2 hs2 rfl)
            have HP := Lib.hid (fun W v (h : DfaAt W W.heap.size v r1) (hZ : IntsAt W W.heap.size A4 z4) => acc_gives (cz := c4) (b := p) (E := .nilIface) h hZ hr ((accOut_ok ho1.gr f1).trans hp) (congrArg errV (accErr_ok ho1.gr f1)))
            have HQ := Lib.hid (fun W v (h : DfaAt W W.heap.size v r2) (hZ : IntsAt W W.heap.size A4 z4) => acc_gives (cz := c4) (b := q) (E := .nilIface) h hZ hr ((accOut_ok ho2.gr f2).trans hq) (congrArg errV (accErr_ok ho2.gr f2)))
            have hc : (p = false ∧ q = false) ∨ (p = false ∧ q = true) ∨ (p = true ∧ q = true) := by rcases p with _ | _ <;> rcases q with _ | _ <;> simp_all
            clear ga Ga fa gb Gb fb fw hx hy hs0 hr hL0 ho0 y1 n1 hs1 hs2 ho1 ho2 hp hq hpq f1 f2 hf hf3 hle hset hsub hFF
            rcases hc with ⟨rfl, rfl⟩ | ⟨rfl, rfl⟩ | ⟨rfl, rfl⟩ <;> rcases x with _ | _
            all_goals as_aux_lemma =>
              go_enter Try.func5, Try.ntmps5
              go_wp2_with fail
              rw [← W0.out]
              clear W0
              refine (HK.out _).mono ?_
              rintro e u1 ⟨rfl, hb⟩
              have Z := Lib.hid (Z.out.on hb)
              have VA := Lib.hid (VA.out.on hb)
              have VB := Lib.hid (VB.out.on hb)
              have B := Lib.hid (B.out.trans (hb.mono B.out.size))
              clear hb  HK
              obtain ⟨p0, p1, p2, p3, p4⟩ := VA.out.box
              go_wp2_with fail
              refine (HX.out _ _ VA.out.at_ Z.out).mono ?_
              rintro e u2 ⟨rfl, hb⟩
              have Z := Lib.hid (Z.out.on hb)
              have VA := Lib.hid (VA.out.on hb)
              have VB := Lib.hid (VB.out.on hb)
              have B := Lib.hid (B.out.trans (hb.mono B.out.size))
              clear hb p0 p1 p2 p3 p4 HX
              obtain ⟨p0, p1, p2, p3, p4⟩ := VB.out.box
              go_wp2_with fail
              refine (HY.out _ _ VB.out.at_ Z.out).mono ?_
              rintro e u3 ⟨rfl, hb⟩
              have Z := Lib.hid (Z.out.on hb)
              have VA := Lib.hid (VA.out.on hb)
              have VB := Lib.hid (VB.out.on hb)
              have B := Lib.hid (B.out.trans (hb.mono B.out.size))
              clear hb p0 p1 p2 p3 p4 HY
              obtain ⟨p0, p1, p2, p3, p4⟩ := VA.out.box
              obtain ⟨q0, q1, q2, q3, q4⟩ := VB.out.box
              go_wp2_with fail
              refine (HM0.out _ _ _ VA.out.at_ VB.out.at_).mono ?_
              rintro e u4 ⟨L14, s14, A14, n14, c14, F14, m14, k14, rfl, hd, hb⟩
              have Z := Lib.hid (Z.out.on hb)
              have VA := Lib.hid (VA.out.on hb)
              have VB := Lib.hid (VB.out.on hb)
              have B := Lib.hid (B.out.trans (hb.mono B.out.size))
              clear hb p0 p1 p2 p3 p4 q0 q1 q2 q3 q4 HM0
              obtain ⟨x4, hx4, hbn, Vn⟩ := var_new u4 hd.out
              have VX := Lib.hid Vn
              have Z := Lib.hid (Z.out.on hbn)
              have VA := Lib.hid (VA.out.on hbn)
              have VB := Lib.hid (VB.out.on hbn)
              have B := Lib.hid (B.out.trans (hbn.mono B.out.size))
              clear hbn Vn hd
              obtain ⟨p0, p1, p2, p3, p4⟩ := VX.out.box
              rw [hx4] at p1 p2 p3 p4
              have HX := Lib.hid hx4
              clear hx4
              go_wp2_with fail
              rw [← HX.out]
              clear HX
              refine (HZ.out _ _ VX.out.at_ Z.out).mono ?_
              rintro e u5 ⟨rfl, hb⟩
              have Z := Lib.hid (Z.out.on hb)
              have VA := Lib.hid (VA.out.on hb)
              have VB := Lib.hid (VB.out.on hb)
              have VX := Lib.hid (VX.out.on hb)
              have B := Lib.hid (B.out.trans (hb.mono B.out.size))
              clear hb p0 p1 p2 p3 p4 HZ
              obtain ⟨p0, p1, p2, p3, p4⟩ := VA.out.box
              obtain ⟨q0, q1, q2, q3, q4⟩ := VB.out.box
              go_wp2_with fail
              refine (HM1.out _ _ _ VA.out.at_ VB.out.at_).mono ?_
              rintro e u6 ⟨L16, s16, A16, n16, c16, F16, m16, k16, rfl, hd, hb⟩
              have Z := Lib.hid (Z.out.on hb)
              have VA := Lib.hid (VA.out.on hb)
              have VB := Lib.hid (VB.out.on hb)
              have VX := Lib.hid (VX.out.on hb)
              have B := Lib.hid (B.out.trans (hb.mono B.out.size))
              clear hb p0 p1 p2 p3 p4 q0 q1 q2 q3 q4 HM1
              obtain ⟨x6, hx6, hbn, Vn⟩ := var_new u6 hd.out
              have V1 := Lib.hid Vn
              have Z := Lib.hid (Z.out.on hbn)
              have VA := Lib.hid (VA.out.on hbn)
              have VB := Lib.hid (VB.out.on hbn)
              have VX := Lib.hid (VX.out.on hbn)
              have B := Lib.hid (B.out.trans (hbn.mono B.out.size))
              clear hbn Vn hd
              obtain ⟨p0, p1, p2, p3, p4⟩ := VA.out.box
              rw [hx6] at p1 p2 p3 p4
              obtain ⟨q0, q1, q2, q3, q4⟩ := VB.out.box
              rw [hx6] at q1 q2 q3 q4
              have HX := Lib.hid hx6
              clear hx6
              go_wp2_with fail
              rw [← HX.out]
              clear HX
              refine (HM2.out _ _ _ VA.out.at_ VB.out.at_).mono ?_
              rintro e u7 ⟨L17, s17, A17, n17, c17, F17, m17, k17, rfl, hd, hb⟩
              have Z := Lib.hid (Z.out.on hb)
              have VA := Lib.hid (VA.out.on hb)
              have VB := Lib.hid (VB.out.on hb)
              have VX := Lib.hid (VX.out.on hb)
              have V1 := Lib.hid (V1.out.on hb)
              have B := Lib.hid (B.out.trans (hb.mono B.out.size))
              clear hb p0 p1 p2 p3 p4 q0 q1 q2 q3 q4 HM2
              obtain ⟨x7, hx7, hbn, Vn⟩ := var_new u7 hd.out
              have V2 := Lib.hid Vn
              have Z := Lib.hid (Z.out.on hbn)
              have VA := Lib.hid (VA.out.on hbn)
              have VB := Lib.hid (VB.out.on hbn)
              have VX := Lib.hid (VX.out.on hbn)
              have V1 := Lib.hid (V1.out.on hbn)
              have B := Lib.hid (B.out.trans (hbn.mono B.out.size))
              clear hbn Vn hd
              obtain ⟨p0, p1, p2, p3, p4⟩ := V1.out.box
              rw [hx7] at p1 p2 p3 p4
              have HX := Lib.hid hx7
              clear hx7
              go_wp2_with fail
              rw [← HX.out]
              clear HX
              refine (HP.out _ _ V1.out.at_ Z.out).mono ?_
              rintro e u8 ⟨rfl, hb⟩
              have Z := Lib.hid (Z.out.on hb)
              have VA := Lib.hid (VA.out.on hb)
              have VB := Lib.hid (VB.out.on hb)
              have VX := Lib.hid (VX.out.on hb)
              have V1 := Lib.hid (V1.out.on hb)
              have V2 := Lib.hid (V2.out.on hb)
              have B := Lib.hid (B.out.trans (hb.mono B.out.size))
              clear hb p0 p1 p2 p3 p4 HP
              obtain ⟨p0, p1, p2, p3, p4⟩ := V2.out.box
              go_wp2_with fail
              refine (HQ.out _ _ V2.out.at_ Z.out).mono ?_
              rintro e u9 ⟨rfl, hb⟩
              have Z := Lib.hid (Z.out.on hb)
              have VA := Lib.hid (VA.out.on hb)
              have VB := Lib.hid (VB.out.on hb)
              have VX := Lib.hid (VX.out.on hb)
              have V1 := Lib.hid (V1.out.on hb)
              have V2 := Lib.hid (V2.out.on hb)
              have B := Lib.hid (B.out.trans (hb.mono B.out.size))
              clear hb p0 p1 p2 p3 p4 HQ
              go_wp2
              go_ret
              exact ⟨rfl, B.out⟩
          · obtain ⟨E1, hE1⟩ := errV_bad hk1
            obtain ⟨E2, hE2⟩ : ∃ E2, E2 = errV k2 := ⟨_, rfl⟩
            have HM1 := Lib.hid (fun W v z (h : DfaAt W W.heap.size v d0) (h2 : DfaAt W W.heap.size z d1) => smake_gives (E := errI E1) h h2 hs1 hE1)
            have HM2 := Lib.hid (fun W v z (h : DfaAt W W.heap.size v d0) (h2 : DfaAt W W.heap.size z d1) => smake_gives (E := E2) h h2 hs2 hE2.symm)
            clear ga Ga fa gb Gb fb fw hx hy hs0 hr hL0 ho0 y1 n1 hs1 hs2 hk1 hE1 hE2 hf hf3 hle hset hsub hFF
            rcases x with _ | _
            all_goals as_aux_lemma =>
              go_enter Try.func5, Try.ntmps5
              go_wp2_with fail
              rw [← W0.out]
              clear W0
              refine (HK.out _).mono ?_
              rintro e u1 ⟨rfl, hb⟩
              have Z := Lib.hid (Z.out.on hb)
              have VA := Lib.hid (VA.out.on hb)
              have VB := Lib.hid (VB.out.on hb)
              have B := Lib.hid (B.out.trans (hb.mono B.out.size))
              clear hb  HK
              obtain ⟨p0, p1, p2, p3, p4⟩ := VA.out.box
              go_wp2_with fail
              refine (HX.out _ _ VA.out.at_ Z.out).mono ?_
              rintro e u2 ⟨rfl, hb⟩
              have Z := Lib.hid (Z.out.on hb)
              have VA := Lib.hid (VA.out.on hb)
              have VB := Lib.hid (VB.out.on hb)
              have B := Lib.hid (B.out.trans (hb.mono B.out.size))
              clear hb p0 p1 p2 p3 p4 HX
              obtain ⟨p0, p1, p2, p3, p4⟩ := VB.out.box
              go_wp2_with fail
              refine (HY.out _ _ VB.out.at_ Z.out).mono ?_
              rintro e u3 ⟨rfl, hb⟩
              have Z := Lib.hid (Z.out.on hb)
              have VA := Lib.hid (VA.out.on hb)
              have VB := Lib.hid (VB.out.on hb)
              have B := Lib.hid (B.out.trans (hb.mono B.out.size))
              clear hb p0 p1 p2 p3 p4 HY
              obtain ⟨p0, p1, p2, p3, p4⟩ := VA.out.box
              obtain ⟨q0, q1, q2, q3, q4⟩ := VB.out.box
              go_wp2_with fail
              refine (HM0.out _ _ _ VA.out.at_ VB.out.at_).mono ?_
              rintro e u4 ⟨L14, s14, A14, n14, c14, F14, m14, k14, rfl, hd, hb⟩
              have Z := Lib.hid (Z.out.on hb)
              have VA := Lib.hid (VA.out.on hb)
              have VB := Lib.hid (VB.out.on hb)
              have B := Lib.hid (B.out.trans (hb.mono B.out.size))
              clear hb p0 p1 p2 p3 p4 q0 q1 q2 q3 q4 HM0
              obtain ⟨x4, hx4, hbn, Vn⟩ := var_new u4 hd.out
              have VX := Lib.hid Vn
              have Z := Lib.hid (Z.out.on hbn)
              have VA := Lib.hid (VA.out.on hbn)
              have VB := Lib.hid (VB.out.on hbn)
              have B := Lib.hid (B.out.trans (hbn.mono B.out.size))
              clear hbn Vn hd
              obtain ⟨p0, p1, p2, p3, p4⟩ := VX.out.box
              rw [hx4] at p1 p2 p3 p4
              have HX := Lib.hid hx4
              clear hx4
              go_wp2_with fail
              rw [← HX.out]
              clear HX
              refine (HZ.out _ _ VX.out.at_ Z.out).mono ?_
              rintro e u5 ⟨rfl, hb⟩
              have Z := Lib.hid (Z.out.on hb)
              have VA := Lib.hid (VA.out.on hb)
              have VB := Lib.hid (VB.out.on hb)
              have VX := Lib.hid (VX.out.on hb)
              have B := Lib.hid (B.out.trans (hb.mono B.out.size))
              clear hb p0 p1 p2 p3 p4 HZ
              obtain ⟨p0, p1, p2, p3, p4⟩ := VA.out.box
              obtain ⟨q0, q1, q2, q3, q4⟩ := VB.out.box
              go_wp2_with fail
              refine (HM1.out _ _ _ VA.out.at_ VB.out.at_).mono ?_
              rintro e u6 ⟨L16, s16, A16, n16, c16, F16, m16, k16, rfl, hd, hb⟩
              have Z := Lib.hid (Z.out.on hb)
              have VA := Lib.hid (VA.out.on hb)
              have VB := Lib.hid (VB.out.on hb)
              have VX := Lib.hid (VX.out.on hb)
              have B := Lib.hid (B.out.trans (hb.mono B.out.size))
              clear hb p0 p1 p2 p3 p4 q0 q1 q2 q3 q4 HM1
              obtain ⟨x6, hx6, hbn, Vn⟩ := var_new u6 hd.out
              have V1 := Lib.hid Vn
              have Z := Lib.hid (Z.out.on hbn)
              have VA := Lib.hid (VA.out.on hbn)
              have VB := Lib.hid (VB.out.on hbn)
              have VX := Lib.hid (VX.out.on hbn)
              have B := Lib.hid (B.out.trans (hbn.mono B.out.size))
              clear hbn Vn hd
              obtain ⟨p0, p1, p2, p3, p4⟩ := VA.out.box
              rw [hx6] at p1 p2 p3 p4
              obtain ⟨q0, q1, q2, q3, q4⟩ := VB.out.box
              rw [hx6] at q1 q2 q3 q4
              have HX := Lib.hid hx6
              clear hx6
              go_wp2_with fail
              rw [← HX.out]
              clear HX
              refine (HM2.out _ _ _ VA.out.at_ VB.out.at_).mono ?_
              rintro e u7 ⟨L17, s17, A17, n17, c17, F17, m17, k17, rfl, hd, hb⟩
              have Z := Lib.hid (Z.out.on hb)
              have VA := Lib.hid (VA.out.on hb)
              have VB := Lib.hid (VB.out.on hb)
              have VX := Lib.hid (VX.out.on hb)
              have V1 := Lib.hid (V1.out.on hb)
              have B := Lib.hid (B.out.trans (hb.mono B.out.size))
              clear hb p0 p1 p2 p3 p4 q0 q1 q2 q3 q4 HM2
              obtain ⟨x7, hx7, hbn, Vn⟩ := var_new u7 hd.out
              have V2 := Lib.hid Vn
              have Z := Lib.hid (Z.out.on hbn)
              have VA := Lib.hid (VA.out.on hbn)
              have VB := Lib.hid (VB.out.on hbn)
              have VX := Lib.hid (VX.out.on hbn)
              have V1 := Lib.hid (V1.out.on hbn)
              have B := Lib.hid (B.out.trans (hbn.mono B.out.size))
              clear hbn Vn hd
              rw [hx7] at B
              clear hx7
              go_wp2
              go_ret
              exact ⟨rfl, B.out⟩
      · obtain ⟨E0, hE0⟩ := errV_bad hk0
        have HM0 := Lib.hid (fun W v z (h : DfaAt W W.heap.size v d0) (h2 : DfaAt W W.heap.size z d1) => smake_gives (E := errI E0) h h2 hs0 hE0)
        clear hE0
        by_cases n1 : a2 < 0 ∨ PW ≤ a2 ∨ a3 < 0
        · clear ga Ga fa gb Gb fb fw hx hy hr1 hs0 hr hL0 hk0 y1
          rcases (show a2 < 0 ∨ (0 ≤ a2 ∧ PW ≤ a2) ∨ (0 ≤ a2 ∧ a2 < PW ∧ a3 < 0) by omega) with n2 | ⟨n2, n3⟩ | ⟨n2, n3, n4⟩
          all_goals clear n1
          all_goals as_aux_lemma =>
            go_enter Try.func5, Try.ntmps5
            go_wp2_with fail
            rw [← W0.out]
            clear W0
            refine (HK.out _).mono ?_
            rintro e u1 ⟨rfl, hb⟩
            have Z := Lib.hid (Z.out.on hb)
            have VA := Lib.hid (VA.out.on hb)
            have VB := Lib.hid (VB.out.on hb)
            have B := Lib.hid (B.out.trans (hb.mono B.out.size))
            clear hb  HK
            obtain ⟨p0, p1, p2, p3, p4⟩ := VA.out.box
            go_wp2_with fail
            refine (HX.out _ _ VA.out.at_ Z.out).mono ?_
            rintro e u2 ⟨rfl, hb⟩
            have Z := Lib.hid (Z.out.on hb)
            have VA := Lib.hid (VA.out.on hb)
            have VB := Lib.hid (VB.out.on hb)
            have B := Lib.hid (B.out.trans (hb.mono B.out.size))
            clear hb p0 p1 p2 p3 p4 HX
            obtain ⟨p0, p1, p2, p3, p4⟩ := VB.out.box
            go_wp2_with fail
            refine (HY.out _ _ VB.out.at_ Z.out).mono ?_
            rintro e u3 ⟨rfl, hb⟩
            have Z := Lib.hid (Z.out.on hb)
            have VA := Lib.hid (VA.out.on hb)
            have VB := Lib.hid (VB.out.on hb)
            have B := Lib.hid (B.out.trans (hb.mono B.out.size))
            clear hb p0 p1 p2 p3 p4 HY
            obtain ⟨p0, p1, p2, p3, p4⟩ := VA.out.box
            obtain ⟨q0, q1, q2, q3, q4⟩ := VB.out.box
            go_wp2_with fail
            refine (HM0.out _ _ _ VA.out.at_ VB.out.at_).mono ?_
            rintro e u4 ⟨L14, s14, A14, n14, c14, F14, m14, k14, rfl, hd, hb⟩
            have Z := Lib.hid (Z.out.on hb)
            have VA := Lib.hid (VA.out.on hb)
            have VB := Lib.hid (VB.out.on hb)
            have B := Lib.hid (B.out.trans (hb.mono B.out.size))
            clear hb p0 p1 p2 p3 p4 q0 q1 q2 q3 q4 HM0
            obtain ⟨x4, hx4, hbn, Vn⟩ := var_new u4 hd.out
            have VX := Lib.hid Vn
            have Z := Lib.hid (Z.out.on hbn)
            have VA := Lib.hid (VA.out.on hbn)
            have VB := Lib.hid (VB.out.on hbn)
            have B := Lib.hid (B.out.trans (hbn.mono B.out.size))
            clear hbn Vn hd
            obtain ⟨p0, p1, p2, p3, p4⟩ := VA.out.box
            rw [hx4] at p1 p2 p3 p4
            obtain ⟨q0, q1, q2, q3, q4⟩ := VB.out.box
            rw [hx4] at q1 q2 q3 q4
            rw [hx4] at B
            clear hx4
            go_wp2
            go_ret
            exact ⟨rfl, B.out⟩
        · obtain ⟨r1, k1, hs1⟩ := hr1
          have n2 : 0 ≤ a2 := by omega
          have n3 : a2 < PW := by omega
          have n4 : 0 ≤ a3 := by omega
          obtain ⟨f, hf⟩ := Int.eq_ofNat_of_zero_le n2
          obtain ⟨f3, hf3⟩ := Int.eq_ofNat_of_zero_le n4
          have hle : f &&& f3 ≤ f := Nat.and_le_left
          have hand : bits .and .i64 a2 a3 = ((f &&& f3 : Nat) : Int) := by rw [hf, hf3]; exact and_nat f f3 (by omega) (by omega)
          have hset : setOk d0.L ((f &&& f3 : Nat) : Int) := by
            unfold setOk
            rw [hL0, y1]
            omega
          have hsub : ∀ a, 0 ≤ a → a < d0.L → has ((f &&& f3 : Nat) : Int) a = true → has a2 a = true := fun a _ _ h => by rw [hf]; exact has_and f f3 a h
          obtain ⟨FF, hFF⟩ : ∃ FF : Int, FF = ((f &&& f3 : Nat) : Int) := ⟨_, rfl⟩
          rw [← hFF] at hand hset hsub
          obtain ⟨r2, k2, hs2⟩ := supI_ex d0 d1 FF
          rcases supI_two hs1 with ⟨rfl, ho1⟩ | ⟨hk1, rfl⟩
          · obtain rfl : k2 = 0 := by
              refine supI_zero hs1 hs2 (plantE_in ho1.g hset) ?_
              obtain ⟨u, hu, hau⟩ := ho1.ex
              exact ⟨u, hu, sup_fewer hsub ((ho1.is u hu).1 hau)⟩
            have ho2 : SupOk d0 d1 FF r2 := by
              rcases supI_two hs2 with ⟨_, h⟩ | ⟨h, _⟩
              · exact h
              · exact absurd rfl h
            obtain ⟨p, hp⟩ : ∃ p, accA r1 z4 = p := ⟨_, rfl⟩
            obtain ⟨q, hq⟩ : ∃ q, accA r2 z4 = q := ⟨_, rfl⟩
            have hpq : p = true → q = true := fun h => by
              rw [← hq]
              exact (ho2.is z4 fw).2 (sup_fewer hsub ((ho1.is z4 fw).1 (hp.trans h)))
            have f1 : Wo.Fine r1.L z4 := by rw [ho1.eL]; exact fa
            have f2 : Wo.Fine r2.L z4 := by rw [ho2.eL]; exact fa
            have HM1 := Lib.hid (fun W v z (h : DfaAt W W.heap.size v d0) (h2 : DfaAt W W.heap.size z d1) => smake_gives (E := .nilIface) h h2 hs1 rfl)
            have HM2 := Lib.hid (fun W v z (h : DfaAt W W.heap.size v d0) (h2 : DfaAt W W.heap.size z d1) => smake_gives (E := .nilIface) h h2 hs2 rfl)
            have HP := Lib.hid (fun W v (h : DfaAt W W.heap.size v r1) (hZ : IntsAt W W.heap.size A4 z4) => acc_gives (cz := c4) (b := p) (E := .nilIface) h hZ hr ((accOut_ok ho1.gr f1).trans hp) (congrArg errV (accErr_ok ho1.gr f1)))
            have HQ := Lib.hid (fun W v (h : DfaAt W W.heap.size v r2) (hZ : IntsAt W W.heap.size A4 z4) => acc_gives (cz := c4) (b := q) (E := .nilIface) h hZ hr ((accOut_ok ho2.gr f2).trans hq) (congrArg errV (accErr_ok ho2.gr f2)))
            have hc : (p = false ∧ q = false) ∨ (p = false ∧ q = true) ∨ (p = true ∧ q = true) := by rcases p with _ | _ <;> rcases q with _ | _ <;> simp_all
            clear ga Ga fa gb Gb fb fw hx hy hs0 hr hL0 hk0 y1 n1 hs1 hs2 ho1 ho2 hp hq hpq f1 f2 hf hf3 hle hset hsub hFF
            rcases hc with ⟨rfl, rfl⟩ | ⟨rfl, rfl⟩ | ⟨rfl, rfl⟩
            all_goals as_aux_lemma =>
              go_enter Try.func5, Try.ntmps5
              go_wp2_with fail
              rw [← W0.out]
              clear W0
              refine (HK.out _).mono ?_
              rintro e u1 ⟨rfl, hb⟩
              have Z := Lib.hid (Z.out.on hb)
              have VA := Lib.hid (VA.out.on hb)
              have VB := Lib.hid (VB.out.on hb)
              have B := Lib.hid (B.out.trans (hb.mono B.out.size))
              clear hb  HK
              obtain ⟨p0, p1, p2, p3, p4⟩ := VA.out.box
              go_wp2_with fail
              refine (HX.out _ _ VA.out.at_ Z.out).mono ?_
              rintro e u2 ⟨rfl, hb⟩
              have Z := Lib.hid (Z.out.on hb)
              have VA := Lib.hid (VA.out.on hb)
              have VB := Lib.hid (VB.out.on hb)
              have B := Lib.hid (B.out.trans (hb.mono B.out.size))
              clear hb p0 p1 p2 p3 p4 HX
              obtain ⟨p0, p1, p2, p3, p4⟩ := VB.out.box
              go_wp2_with fail
              refine (HY.out _ _ VB.out.at_ Z.out).mono ?_
              rintro e u3 ⟨rfl, hb⟩
              have Z := Lib.hid (Z.out.on hb)
              have VA := Lib.hid (VA.out.on hb)
              have VB := Lib.hid (VB.out.on hb)
              have B := Lib.hid (B.out.trans (hb.mono B.out.size))
              clear hb p0 p1 p2 p3 p4 HY
              obtain ⟨p0, p1, p2, p3, p4⟩ := VA.out.box
              obtain ⟨q0, q1, q2, q3, q4⟩ := VB.out.box
              go_wp2_with fail
              refine (HM0.out _ _ _ VA.out.at_ VB.out.at_).mono ?_
              rintro e u4 ⟨L14, s14, A14, n14, c14, F14, m14, k14, rfl, hd, hb⟩
              have Z := Lib.hid (Z.out.on hb)
              have VA := Lib.hid (VA.out.on hb)
              have VB := Lib.hid (VB.out.on hb)
              have B := Lib.hid (B.out.trans (hb.mono B.out.size))
              clear hb p0 p1 p2 p3 p4 q0 q1 q2 q3 q4 HM0
              obtain ⟨x4, hx4, hbn, Vn⟩ := var_new u4 hd.out
              have VX := Lib.hid Vn
              have Z := Lib.hid (Z.out.on hbn)
              have VA := Lib.hid (VA.out.on hbn)
              have VB := Lib.hid (VB.out.on hbn)
              have B := Lib.hid (B.out.trans (hbn.mono B.out.size))
              clear hbn Vn hd
              obtain ⟨p0, p1, p2, p3, p4⟩ := VA.out.box
              rw [hx4] at p1 p2 p3 p4
              obtain ⟨q0, q1, q2, q3, q4⟩ := VB.out.box
              rw [hx4] at q1 q2 q3 q4
              have HX := Lib.hid hx4
              clear hx4
              go_wp2_with fail
              rw [← HX.out]
              clear HX
              refine (HM1.out _ _ _ VA.out.at_ VB.out.at_).mono ?_
              rintro e u5 ⟨L15, s15, A15, n15, c15, F15, m15, k15, rfl, hd, hb⟩
              have Z := Lib.hid (Z.out.on hb)
              have VA := Lib.hid (VA.out.on hb)
              have VB := Lib.hid (VB.out.on hb)
              have VX := Lib.hid (VX.out.on hb)
              have B := Lib.hid (B.out.trans (hb.mono B.out.size))
              clear hb p0 p1 p2 p3 p4 q0 q1 q2 q3 q4 HM1
              obtain ⟨x5, hx5, hbn, Vn⟩ := var_new u5 hd.out
              have V1 := Lib.hid Vn
              have Z := Lib.hid (Z.out.on hbn)
              have VA := Lib.hid (VA.out.on hbn)
              have VB := Lib.hid (VB.out.on hbn)
              have VX := Lib.hid (VX.out.on hbn)
              have B := Lib.hid (B.out.trans (hbn.mono B.out.size))
              clear hbn Vn hd
              obtain ⟨p0, p1, p2, p3, p4⟩ := VA.out.box
              rw [hx5] at p1 p2 p3 p4
              obtain ⟨q0, q1, q2, q3, q4⟩ := VB.out.box
              rw [hx5] at q1 q2 q3 q4
              have HX := Lib.hid hx5
              clear hx5
              go_wp2_with fail
              rw [← HX.out]
              clear HX
              refine (HM2.out _ _ _ VA.out.at_ VB.out.at_).mono ?_
              rintro e u6 ⟨L16, s16, A16, n16, c16, F16, m16, k16, rfl, hd, hb⟩
              have Z := Lib.hid (Z.out.on hb)
              have VA := Lib.hid (VA.out.on hb)
              have VB := Lib.hid (VB.out.on hb)
              have VX := Lib.hid (VX.out.on hb)
              have V1 := Lib.hid (V1.out.on hb)
              have B := Lib.hid (B.out.trans (hb.mono B.out.size))
              clear hb p0 p1 p2 p3 p4 q0 q1 q2 q3 q4 HM2
              obtain ⟨x6, hx6, hbn, Vn⟩ := var_new u6 hd.out
              have V2 := Lib.hid Vn
              have Z := Lib.hid (Z.out.on hbn)
              have VA := Lib.hid (VA.out.on hbn)
              have VB := Lib.hid (VB.out.on hbn)
              have VX := Lib.hid (VX.out.on hbn)
              have V1 := Lib.hid (V1.out.on hbn)
              have B := Lib.hid (B.out.trans (hbn.mono B.out.size))
              clear hbn Vn hd
              obtain ⟨p0, p1, p2, p3, p4⟩ := V1.out.box
              rw [hx6] at p1 p2 p3 p4
              have HX := Lib.hid hx6
              clear hx6
              go_wp2_with fail
              rw [← HX.out]
              clear HX
              refine (HP.out _ _ V1.out.at_ Z.out).mono ?_
              rintro e u7 ⟨rfl, hb⟩
              have Z := Lib.hid (Z.out.on hb)
              have VA := Lib.hid (VA.out.on hb)
              have VB := Lib.hid (VB.out.on hb)
              have VX := Lib.hid (VX.out.on hb)
              have V1 := Lib.hid (V1.out.on hb)
              have V2 := Lib.hid (V2.out.on hb)
              have B := Lib.hid (B.out.trans (hb.mono B.out.size))
              clear hb p0 p1 p2 p3 p4 HP
              obtain ⟨p0, p1, p2, p3, p4⟩ := V2.out.box
              go_wp2_with fail
              refine (HQ.out _ _ V2.out.at_ Z.out).mono ?_
              rintro e u8 ⟨rfl, hb⟩
              have Z := Lib.hid (Z.out.on hb)
              have VA := Lib.hid (VA.out.on hb)
              have VB := Lib.hid (VB.out.on hb)
              have VX := Lib.hid (VX.out.on hb)
              have V1 := Lib.hid (V1.out.on hb)
              have V2 := Lib.hid (V2.out.on hb)
              have B := Lib.hid (B.out.trans (hb.mono B.out.size))
              clear hb p0 p1 p2 p3 p4 HQ
              go_wp2
              go_ret
              exact ⟨rfl, B.out⟩
          · obtain ⟨E1, hE1⟩ := errV_bad hk1
            obtain ⟨E2, hE2⟩ : ∃ E2, E2 = errV k2 := ⟨_, rfl⟩
            have HM1 := Lib.hid (fun W v z (h : DfaAt W W.heap.size v d0) (h2 : DfaAt W W.heap.size z d1) => smake_gives (E := errI E1) h h2 hs1 hE1)
            have HM2 := Lib.hid (fun W v z (h : DfaAt W W.heap.size v d0) (h2 : DfaAt W W.heap.size z d1) => smake_gives (E := E2) h h2 hs2 hE2.symm)
            clear ga Ga fa gb Gb fb fw hx hy hs0 hr hL0 hk0 y1 n1 hs1 hs2 hk1 hE1 hE2 hf hf3 hle hset hsub hFF
            go_enter Try.func5, Try.ntmps5
            go_wp2_with fail
            rw [← W0.out]
            clear W0
            refine (HK.out _).mono ?_
            rintro e u1 ⟨rfl, hb⟩
            have Z := Lib.hid (Z.out.on hb)
            have VA := Lib.hid (VA.out.on hb)
            have VB := Lib.hid (VB.out.on hb)
            have B := Lib.hid (B.out.trans (hb.mono B.out.size))
            clear hb  HK
            obtain ⟨p0, p1, p2, p3, p4⟩ := VA.out.box
            go_wp2_with fail
            refine (HX.out _ _ VA.out.at_ Z.out).mono ?_
            rintro e u2 ⟨rfl, hb⟩
            have Z := Lib.hid (Z.out.on hb)
            have VA := Lib.hid (VA.out.on hb)
            have VB := Lib.hid (VB.out.on hb)
            have B := Lib.hid (B.out.trans (hb.mono B.out.size))
            clear hb p0 p1 p2 p3 p4 HX
            obtain ⟨p0, p1, p2, p3, p4⟩ := VB.out.box
            go_wp2_with fail
            refine (HY.out _ _ VB.out.at_ Z.out).mono ?_
            rintro e u3 ⟨rfl, hb⟩
            have Z := Lib.hid (Z.out.on hb)
            have VA := Lib.hid (VA.out.on hb)
            have VB := Lib.hid (VB.out.on hb)
            have B := Lib.hid (B.out.trans (hb.mono B.out.size))
            clear hb p0 p1 p2 p3 p4 HY
            obtain ⟨p0, p1, p2, p3, p4⟩ := VA.out.box
            obtain ⟨q0, q1, q2, q3, q4⟩ := VB.out.box
            go_wp2_with fail
            refine (HM0.out _ _ _ VA.out.at_ VB.out.at_).mono ?_
            rintro e u4 ⟨L14, s14, A14, n14, c14, F14, m14, k14, rfl, hd, hb⟩
            have Z := Lib.hid (Z.out.on hb)
            have VA := Lib.hid (VA.out.on hb)
            have VB := Lib.hid (VB.out.on hb)
            have B := Lib.hid (B.out.trans (hb.mono B.out.size))
            clear hb p0 p1 p2 p3 p4 q0 q1 q2 q3 q4 HM0
            obtain ⟨x4, hx4, hbn, Vn⟩ := var_new u4 hd.out
            have VX := Lib.hid Vn
            have Z := Lib.hid (Z.out.on hbn)
            have VA := Lib.hid (VA.out.on hbn)
            have VB := Lib.hid (VB.out.on hbn)
            have B := Lib.hid (B.out.trans (hbn.mono B.out.size))
            clear hbn Vn hd
            obtain ⟨p0, p1, p2, p3, p4⟩ := VA.out.box
            rw [hx4] at p1 p2 p3 p4
            obtain ⟨q0, q1, q2, q3, q4⟩ := VB.out.box
            rw [hx4] at q1 q2 q3 q4
            have HX := Lib.hid hx4
            clear hx4
            go_wp2_with fail
            rw [← HX.out]
            clear HX
            refine (HM1.out _ _ _ VA.out.at_ VB.out.at_).mono ?_
            rintro e u5 ⟨L15, s15, A15, n15, c15, F15, m15, k15, rfl, hd, hb⟩
            have Z := Lib.hid (Z.out.on hb)
            have VA := Lib.hid (VA.out.on hb)
            have VB := Lib.hid (VB.out.on hb)
            have VX := Lib.hid (VX.out.on hb)
            have B := Lib.hid (B.out.trans (hb.mono B.out.size))
            clear hb p0 p1 p2 p3 p4 q0 q1 q2 q3 q4 HM1
            obtain ⟨x5, hx5, hbn, Vn⟩ := var_new u5 hd.out
            have V1 := Lib.hid Vn
            have Z := Lib.hid (Z.out.on hbn)
            have VA := Lib.hid (VA.out.on hbn)
            have VB := Lib.hid (VB.out.on hbn)
            have VX := Lib.hid (VX.out.on hbn)
            have B := Lib.hid (B.out.trans (hbn.mono B.out.size))
            clear hbn Vn hd
            obtain ⟨p0, p1, p2, p3, p4⟩ := VA.out.box
            rw [hx5] at p1 p2 p3 p4
            obtain ⟨q0, q1, q2, q3, q4⟩ := VB.out.box
            rw [hx5] at q1 q2 q3 q4
            have HX := Lib.hid hx5
            clear hx5
            go_wp2_with fail
            rw [← HX.out]
            clear HX
            refine (HM2.out _ _ _ VA.out.at_ VB.out.at_).mono ?_
            rintro e u6 ⟨L16, s16, A16, n16, c16, F16, m16, k16, rfl, hd, hb⟩
            have Z := Lib.hid (Z.out.on hb)
            have VA := Lib.hid (VA.out.on hb)
            have VB := Lib.hid (VB.out.on hb)
            have VX := Lib.hid (VX.out.on hb)
            have V1 := Lib.hid (V1.out.on hb)
            have B := Lib.hid (B.out.trans (hb.mono B.out.size))
            clear hb p0 p1 p2 p3 p4 q0 q1 q2 q3 q4 HM2
            obtain ⟨x6, hx6, hbn, Vn⟩ := var_new u6 hd.out
            have V2 := Lib.hid Vn
            have Z := Lib.hid (Z.out.on hbn)
            have VA := Lib.hid (VA.out.on hbn)
            have VB := Lib.hid (VB.out.on hbn)
            have VX := Lib.hid (VX.out.on hbn)
            have V1 := Lib.hid (V1.out.on hbn)
            have B := Lib.hid (B.out.trans (hbn.mono B.out.size))
            clear hbn Vn hd
            rw [hx6] at B
            clear hx6
            go_wp2
            go_ret
            exact ⟨rfl, B.out⟩
    · obtain ⟨E, hE⟩ := errV_bad gb
      have HX := Lib.hid (fun W v (h : DfaAt W W.heap.size v d0) (hZ : IntsAt W W.heap.size A4 z4) => acc_gives (cz := c4) (b := accA d0 z4) (E := .nilIface) h hZ hr (accOut_ok Ga fa) (congrArg errV (accErr_ok Ga fa)))
      have HY := Lib.hid (fun W v (h : DfaAt W W.heap.size v d1) (hZ : IntsAt W W.heap.size A4 z4) => acc_gives (cz := c4) (b := accOut d1 z4) (E := errI E) h hZ hr rfl hE)
      generalize accOut d1 z4 = b at *
      generalize accA d0 z4 = b0 at *
      clear ga Ga fa gb hE hr hL0
      go_enter Try.func5, Try.ntmps5
      go_wp2_with fail
      rw [← W0.out]
      clear W0
      refine (HK.out _).mono ?_
      rintro e u1 ⟨rfl, hb⟩
      have Z := Lib.hid (Z.out.on hb)
      have VA := Lib.hid (VA.out.on hb)
      have VB := Lib.hid (VB.out.on hb)
      have B := Lib.hid (B.out.trans (hb.mono B.out.size))
      clear hb  HK
      obtain ⟨p0, p1, p2, p3, p4⟩ := VA.out.box
      go_wp2_with fail
      refine (HX.out _ _ VA.out.at_ Z.out).mono ?_
      rintro e u2 ⟨rfl, hb⟩
      have Z := Lib.hid (Z.out.on hb)
      have VA := Lib.hid (VA.out.on hb)
      have VB := Lib.hid (VB.out.on hb)
      have B := Lib.hid (B.out.trans (hb.mono B.out.size))
      clear hb p0 p1 p2 p3 p4 HX
      obtain ⟨p0, p1, p2, p3, p4⟩ := VB.out.box
      go_wp2_with fail
      refine (HY.out _ _ VB.out.at_ Z.out).mono ?_
      rintro e u3 ⟨rfl, hb⟩
      have Z := Lib.hid (Z.out.on hb)
      have VA := Lib.hid (VA.out.on hb)
      have VB := Lib.hid (VB.out.on hb)
      have B := Lib.hid (B.out.trans (hb.mono B.out.size))
      clear hb p0 p1 p2 p3 p4 HY
      go_wp2
      go_ret
      exact ⟨rfl, B.out⟩
  · obtain ⟨E, hE⟩ := errV_bad ga
    obtain ⟨E2, hE2⟩ : ∃ E2, E2 = errV (accErr d1 z4) := ⟨_, rfl⟩
    have HX := Lib.hid (fun W v (h : DfaAt W W.heap.size v d0) (hZ : IntsAt W W.heap.size A4 z4) => acc_gives (cz := c4) (b := accOut d0 z4) (E := errI E) h hZ hr rfl hE)
    have HY := Lib.hid (fun W v (h : DfaAt W W.heap.size v d1) (hZ : IntsAt W W.heap.size A4 z4) => acc_gives (cz := c4) (b := accOut d1 z4) (E := E2) h hZ hr rfl hE2.symm)
    generalize accOut d0 z4 = b at *
    generalize accOut d1 z4 = b1 at *
    clear ga hE hE2 hr hL0
    go_enter Try.func5, Try.ntmps5
    go_wp2_with fail
    rw [← W0.out]
    clear W0
    refine (HK.out _).mono ?_
    rintro e u1 ⟨rfl, hb⟩
    have Z := Lib.hid (Z.out.on hb)
    have VA := Lib.hid (VA.out.on hb)
    have VB := Lib.hid (VB.out.on hb)
    have B := Lib.hid (B.out.trans (hb.mono B.out.size))
    clear hb  HK
    obtain ⟨p0, p1, p2, p3, p4⟩ := VA.out.box
    go_wp2_with fail
    refine (HX.out _ _ VA.out.at_ Z.out).mono ?_
    rintro e u2 ⟨rfl, hb⟩
    have Z := Lib.hid (Z.out.on hb)
    have VA := Lib.hid (VA.out.on hb)
    have VB := Lib.hid (VB.out.on hb)
    have B := Lib.hid (B.out.trans (hb.mono B.out.size))
    clear hb p0 p1 p2 p3 p4 HX
    obtain ⟨p0, p1, p2, p3, p4⟩ := VB.out.box
    go_wp2_with fail
    refine (HY.out _ _ VB.out.at_ Z.out).mono ?_
    rintro e u3 ⟨rfl, hb⟩
    have Z := Lib.hid (Z.out.on hb)
    have VA := Lib.hid (VA.out.on hb)
    have VB := Lib.hid (VB.out.on hb)
    have B := Lib.hid (B.out.trans (hb.mono B.out.size))
    clear hb p0 p1 p2 p3 p4 HY
    go_wp2
    go_ret
    exact ⟨rfl, B.out⟩


set_option maxRecDepth 100000 in
theorem lifted (os : Os) (started : os.Started) (H : Type) (enc : TypeId × Value → H) :
    ReturnsInHanded {} Try.checked os 5 .any (Rows.superFewerSpec.pre6 enc Try.prog Try.f5 Rows.superFewerRow.domain false) (Rows.superFewerSpec.post enc Try.prog Try.f5 false true false false) := by
  refine returnsInHanded_of_change_sized (C := Try.checked) own started (by kernel_rfl) Try.func5
    (ChangeSpec.witness6 (enc := enc) (C := Try.checked) false ⟨#[], #[.agg #[.int .i64 0, .int .i64 0, .slice none 0 0, .slice none 0 0], .agg #[.int .i64 0, .int .i64 0, .slice none 0 0, .slice none 0 0], .int .i64 0, .int .i64 0, .slice none 0 0], []⟩ 8 (by kernel_rfl) (by kernel_rfl) (by kernel_rfl) (by kernel_rfl)) ?_
  intro W base args ds gs before hval0 hW hcnd hsz0 _
  have hval : ∀ (j : Nat) t v, Try.f5.params[j]? = some t → args[j]? = some v → Value.okWide Try.prog W .any base t v := hval0
  have hsz : (DataW.weightsEach Try.prog (Try.f5.params.toList ++ Rows.superFewerSpec.plain.varTypes Try.prog) (ds ++ gs)).all (· ≤ reachBytes) = true := hsz0
  have hW' := hW
  obtain ⟨p, q, hA0, hV0, rfl, hfz, hnd⟩ := hW
  have hV : DataW.TrodVars enc Try.prog W (fun _ => true) [] gs q := hV0
  have hA : DataW.TrodAll enc Try.prog W 0 (fun _ => true) true Try.f5.params.toList args.toList ds p := hA0
  rw [Try.params5] at hA hval hsz
  obtain ⟨v0, vs0, d0, ds0, p0, q0, hargs, rfl, rfl, h0, rr0⟩ := trodAll_cons hA
  obtain ⟨v1, vs1, d1, ds1, p1, q1, rfl, rfl, rfl, h1, rr1⟩ := trodAll_cons rr0
  obtain ⟨v2, vs2, d2, ds2, p2, q2, rfl, rfl, rfl, h2, rr2⟩ := trodAll_cons rr1
  obtain ⟨v3, vs3, d3, ds3, p3, q3, rfl, rfl, rfl, h3, rr3⟩ := trodAll_cons rr2
  obtain ⟨v4, vs4, d4, ds4, p4, q4, rfl, rfl, rfl, h4, rr4⟩ := trodAll_cons rr3
  obtain ⟨rfl, rfl, rfl⟩ := trodAll_nil rr4
  obtain rfl : args = #[v0, v1, v2, v3, v4] := by cases args; simp_all
  obtain ⟨rfl, rfl⟩ := trodVars_none hV
  have k0 := h0
  have lt0 : ∀ x ∈ p0, x.block < W.heap.size := by obtain ⟨m, hm⟩ := k0; exact DataW.trod_lt m _ _ _ hm
  have k1 := h1
  have lt1 : ∀ x ∈ p1, x.block < W.heap.size := by obtain ⟨m, hm⟩ := k1; exact DataW.trod_lt m _ _ _ hm
  have k2 := h2
  have lt2 : ∀ x ∈ p2, x.block < W.heap.size := by obtain ⟨m, hm⟩ := k2; exact DataW.trod_lt m _ _ _ hm
  have k3 := h3
  have lt3 : ∀ x ∈ p3, x.block < W.heap.size := by obtain ⟨m, hm⟩ := k3; exact DataW.trod_lt m _ _ _ hm
  have k4 := h4
  have lt4 : ∀ x ∈ p4, x.block < W.heap.size := by obtain ⟨m, hm⟩ := k4; exact DataW.trod_lt m _ _ _ hm
  obtain ⟨D0, x0⟩ : ∃ d : Df.Aut, Df.DfaAt W W.heap.size v0 d := Df.dfa_open (hval 0 25 v0 rfl rfl) h0
  obtain ⟨D1, x1⟩ : ∃ d : Df.Aut, Df.DfaAt W W.heap.size v1 d := Df.dfa_open (hval 1 25 v1 rfl rfl) h1
  obtain ⟨a2, rfl, rfl, rfl, w2⟩ := open_int Try.underlying3 (hval 2 3 v2 rfl rfl) h2
  obtain ⟨l2, hh2⟩ := bounds_i64 w2
  obtain ⟨a3, rfl, rfl, rfl, w3⟩ := open_int Try.underlying3 (hval 3 3 v3 rfl rfl) h3
  obtain ⟨l3, hh3⟩ := bounds_i64 w3
  obtain ⟨A4, len4, c4, rfl⟩ := okWide_slice Try.underlying26 (hval 4 26 v4 rfl rfl)
  obtain ⟨z4, rfl, x4, r4, m4⟩ : ∃ zs : List Int, len4 = zs.length ∧ IntsAt W W.heap.size A4 zs ∧ zs.length ≤ 17592186043904 ∧ zs.length ≤ c4 := by
    obtain ⟨fuel, hf⟩ := h4
    rcases open_ints Try.underlying26 Try.underlying3 (by kernel_rfl) hf with ⟨hcs, _⟩ | ⟨x, l, c, zs, hcs, _, hl, hm, hz, hx, hcell, hwz⟩
    · simp [Value.cells] at hcs
      obtain ⟨rfl, rfl, rfl⟩ := hcs
      exact ⟨[], rfl, IntsAt.nil _ _ _, by simp, by simp⟩
    · simp [Value.cells] at hcs
      obtain ⟨rfl, rfl, rfl⟩ := hcs
      have hd := congrArg Prod.fst hx
      simp only at hd
      have := sized_slice hsz (j := 4) (t := 26) (e := 3) rfl (by rw [hd]; rfl) Try.underlying26
      rw [(show Try.prog.bytesOf 3 = 8 by kernel_rfl)] at this
      simp only [reachBytes, lits, List.length_map, List.length_take, List.length_drop] at this
      have hz' : zs.length = c4 := by simpa using hz
      exact ⟨zs.take len4, by rw [List.length_take]; omega, intsAt_of_open hcell hwz len4, by rw [List.length_take]; omega, by rw [List.length_take]; omega⟩
  clear hA0 hval0
  refine (walk v0 D0 v1 D1 a2 a3 A4 c4 z4 W x0 x1 l2 hh2 l3 hh3 x4 r4 m4).mono fun e W' ⟨he, bel⟩ => ?_
  subst he
  exact ⟨_, rfl, _, _, _, [], _, [], hW', trodAll_mk1 (shut_bool Try.underlying4 _), (trodAll_cons_mk (Below.trod laidOut (by kernel_rfl) (of_decide_eq_true (by kernel_rfl)) k0 bel lt0) (trodAll_cons_mk (Below.trod laidOut (by kernel_rfl) (of_decide_eq_true (by kernel_rfl)) k1 bel lt1) (trodAll_cons_mk (Below.trod laidOut (by kernel_rfl) (of_decide_eq_true (by kernel_rfl)) k2 bel lt2) (trodAll_cons_mk (Below.trod laidOut (by kernel_rfl) (of_decide_eq_true (by kernel_rfl)) k3 bel lt3) (trodAll_cons_mk (Below.trod laidOut (by kernel_rfl) (of_decide_eq_true (by kernel_rfl)) k4 bel lt4) trodAll_mk0))))), rfl, bel.frame _, fun h => by cases h⟩

theorem over : Rows.superFewerRow.holds Try.pinned (OpenSpec.ofChange Rows.superFewerSpec) :=
  OpenClaim.holds_of_wide 5 Try.f5 rfl rfl rfl rfl rfl rfl rfl ⟨rfl, rfl, rfl, rfl, rfl⟩ rfl rfl rfl rfl rfl (by kernel_rfl) Try.func5 (by kernel_rfl)
    (of_decide_eq_true (by kernel_rfl)) (by unfold Func.isWrapper; rw [if_neg (of_decide_eq_false (by kernel_rfl))]; exact ⟨rfl, rfl⟩)
    (fun os started H enc _ => lifted os started H enc)
theorem proved : Rows.SuperFewerSaid := over
#print axioms proved
end Go.Proofs.Ytbciefeipiphiaa.superFewer
