/-
  The statement MendLeastCardSaid of this seat, proved: for every input the law returns true and its arguments read behind the call as before. Conditions: none but the row's own (each argument within the reach; the listed variable as the program lays it, tied by the given tie).
-/
import Derived.Test.YtfiknbdpjnpkdaaDoorRows
import Derived.Test.YtfiknbdpjnpkdaaDoorCards
import Derived.Test.YtfiknbdpjnpkdaaDoorTie
import Derived.SevenTiedAt
import Derived.LaidLaws
import Derived.LaidHandle
import Derived.LaidMore
import Derived.Lay
import Derived.MakeChecks
import Derived.Stop.Joined
import Derived.JoinedOf
import Derived.RowKit
import Derived.RowKitTokens
import Derived.ChangeSame
import Derived.ChangeVars
import Derived.Test.YtfiknbdpjnpkdaaDoorWords
import Derived.WalkKit
import Derived.ProofKit
import Derived.OpenShut
import Derived.ShutString
import Derived.ChangeOld
import Derived.Below
import Derived.SizedLaws
import Derived.Lib.Hide
import Derived.Test.YtfiknbdpjnpkdaaDoorMendV
import Derived.Test.YtfiknbdpjnpkdaaDoorNearK
import Derived.Test.YtfiknbdpjnpkdaaDoorDfaV
import Derived.Test.YtfiknbdpjnpkdaaDoorRefWord
import Derived.Test.YtfiknbdpjnpkdaaDoorSays
namespace Go.Proofs.YtfiknbdpjnpkdaaDoor.mendLeast
open Go.ChangeShapes Go.WideShapes Go.ChangeAt Go.RowKit Go.IntWalk Go.Proofs.YtfiknbdpjnpkdaaDoor.Wd
open Go.ChangeMaps (open_string shut_string)
set_option linter.unusedVariables false

theorem own : ownKnob Tryd.prog.godebug = none := by kernel_rfl
theorem laidOut : laidOutB Tryd.prog = true := by kernel_rfl
theorem et : Tryd.prog.globalNamed "errors.errorType" = some 0 := by kernel_rfl
theorem rt : (Tryd.prog.cutTypes.find? (·.1 == "internal/reflectlite.rtype")).map (·.2) = some 107 := by kernel_rfl
theorem oneRow : ((List.range 149).filter fun t => Tryd.prog.rowNamed t [101, 114, 114, 111, 114]) = [32] := by kernel_rfl
theorem size : Tryd.prog.types.size = 149 := by kernel_rfl
/-- What the condition gives a walk: the variable's one cell. -/
theorem handle_of_laid {w : World} (h : laidMetH Tryd.prog [("errors.errorType", Rows.laid_errors_errorType)] w) : w.cell? ⟨0, 0, none⟩ = some (.iface 107 (.agg #[.pointer (some ⟨1, 32, none⟩)])) := by
  have h' : laidMet Tryd.prog [] w ∧ handlesMet Tryd.prog [("errors.errorType", Rows.laid_errors_errorType)] w := h
  obtain ⟨name, u, ty, e1, e2, e3, e4, e5⟩ := h'.2 _ (List.mem_singleton.2 rfl)
  have en : name = [101, 114, 114, 111, 114] := (Option.some.inj e1).symm
  subst en
  obtain rfl := Option.some.inj (rt.symm.trans e2)
  have hm : ty ∈ (List.range 149).filter fun t => Tryd.prog.rowNamed t [101, 114, 114, 111, 114] := List.mem_filter.2 ⟨List.mem_range.2 (by rw [← size]; exact e3), e4⟩
  rw [oneRow] at hm
  obtain rfl := List.mem_singleton.1 hm
  have hh : typeHandle Tryd.prog 32 = .pointer (some ⟨1, 32, none⟩) := by kernel_rfl
  rw [hh] at e5
  simpa using World.var?_cell et e5 0
/-- A world that meets the condition. -/
noncomputable def laidWorld (os : Os) : World :=
  let w0 := World.holding Tryd.prog os ⟨#[], #[], []⟩
  { w0 with heap := w0.heap.modify 0 fun
      | .cells _ t frozen => .cells #[.iface 107 (.agg #[.pointer (some ⟨1, 32, none⟩)])] t frozen
      | o => o }
theorem laidWorld_met (os : Os) (args : Array Value) : laidMetH Tryd.prog [("errors.errorType", Rows.laid_errors_errorType)] ((laidWorld os).forCall (fun _ _ => 0) ⟨#[], args, []⟩).memory :=
  laidMetH_of_parts (laidMet_nil _ _) (by kernel_rfl)
open Go.Proofs.YtfiknbdpjnpkdaaDoor.Wo Go.Proofs.YtfiknbdpjnpkdaaDoor.Er Go.Proofs.YtfiknbdpjnpkdaaDoor.Df Go.Proofs.YtfiknbdpjnpkdaaDoor.Rc Go.Proofs.YtfiknbdpjnpkdaaDoor.Ne Go.Proofs.YtfiknbdpjnpkdaaDoor.Me
theorem says_gives {w : World} (hg : w.cell? ⟨0, 0, none⟩ = some (.iface 107 (.agg #[.pointer (some ⟨1, 32, none⟩)]))) (e : Nat) {E : Value} {K : Int} (hE : errV e = E) (hK : (e : Int) = K) (W : World) (hb : Below w.heap.size w W) :
    Calls Tryd.prog 11 #[E, .int .i64 K] W fun r w' => r = .returned (.bool true) ∧ Below W.heap.size W w' := by
  subst hE
  subst hK
  exact says e hg W hb

set_option maxRecDepth 100000 in
set_option maxHeartbeats 4000000 in
theorem walk (v0 : Value) (d0 : Df.Aut) (A1 : Option Addr) (c1 : Nat) (z1 : List Int) (A2 : Option Addr) (c2 : Nat) (z2 : List Int) (w : World) (h0 : Df.DfaAt w w.heap.size v0 d0) (v1 : IntsAt w w.heap.size A1 z1) (r1 : z1.length ≤ 17592186043904) (m1 : z1.length ≤ c1) (v2 : IntsAt w w.heap.size A2 z2) (r2 : z2.length ≤ 17592186043904) (m2 : z2.length ≤ c2) (hg : w.cell? ⟨0, 0, none⟩ = some (.iface 107 (.agg #[.pointer (some ⟨1, 32, none⟩)]))) :
    Calls Tryd.prog 4 #[v0, .slice A1 z1.length c1, .slice A2 z2.length c2] w fun e w' => e = .returned (.bool true) ∧ Below w.heap.size w w' := by
  have hr : z1.length ≤ 17592186044416 := by omega
  have hr2 : z2.length ≤ 17592186044416 := by omega
  have hLs00 : Small d0.L := by
    obtain ⟨L, s, A, c, F, cf, _, h⟩ := h0
    rw [h.eL]; exact h.hL
  obtain ⟨L0, s0, A0, n0, c0, F0, m0, k0, rfl⟩ := h0.form
  have hN0 := h0.eqs.2.2.1
  obtain ⟨u0, hu0, hb0, VA0⟩ := var_new w h0
  have VA := Lib.hid VA0
  have B := Lib.hid hb0
  have W0 := Lib.hid hu0
  have HN0 := Lib.hid hN0
  have Z := Lib.hid (v1.on hb0)
  have Y := Lib.hid (v2.on hb0)
  clear VA0 hb0 hu0 h0 hN0 v1 v2
  clear HN0 m1 m2
  have HF := Lib.hid mendFact_any
  have hL0 : d0.L = L0 := VA.out.at_.eqs.1
  have hLs0 : Small L0 := by rw [← hL0]; exact hLs00
  have HDa : Hid (∀ W A B ca cb, IntsAt W W.heap.size A z1 → IntsAt W W.heap.size B z2 → Calls Tryd.prog 16 #[.int .i64 L0, .slice A z1.length ca, .slice B z2.length cb] W fun e w' => (∃ (n : Int), e = .returned (.tuple #[.int .i64 n, errV (distOut L0 z1 z2).2])) ∧ Below W.heap.size W w') := fun W A B ca cb hA hB => (dist_any L0 A ca z1 B cb z2 W hLs0 hA hB hr hr2).mono fun e w' ⟨h1, h2⟩ => ⟨⟨_, h1.out⟩, h2⟩
  have hbe : accErr d0 z2 = aErr d0 z2 := aErr_acc d0 z2
  by_cases ha2 : aErr d0 z2 = 0
  · obtain ⟨g1, g2⟩ := aErr_good ha2
    have gd := dchk_iff.1 g1
    have hfz2 := chk_iff.1 g2
    have hLs : Small d0.L := ⟨by have := gd.l1; omega, by have := gd.l6; omega⟩
    have hab0 := (acc_fine gd hfz2).2
    have hae : errV (accErr d0 z2) = .nilIface := by rw [hbe, ha2]; rfl
    by_cases hfz1 : Fine d0.L z1
    · clear HDa
      rcases hacc : accA d0 z2 with _ | _
      · have hab : accOut d0 z2 = false := by rw [hab0, hacc]
        have HA := Lib.hid (fun W v cb (h : DfaAt W W.heap.size v d0) (hB : IntsAt W W.heap.size A2 z2) => acc_gives (cz := cb) (b := false) (E := .nilIface) h hB hr2 hab hae)
        have HD : Hid (∀ W A B ca cb, IntsAt W W.heap.size A z1 → IntsAt W W.heap.size B z2 → Calls Tryd.prog 16 #[.int .i64 L0, .slice A z1.length ca, .slice B z2.length cb] W fun e w' => e = .returned (.tuple #[.int .i64 ((lev z1 z2 : Nat) : Int), .nilIface]) ∧ Below W.heap.size W w') := fun W A B ca cb hA hB => by
          have h := dist_ok (c := ca) (d := cb) hLs hA hB hfz1 hfz2
          rw [hL0] at h
          exact h
        generalize lev z1 z2 = far at *
        clear hab hab0 hae hacc g1 g2 gd hfz1 hfz2 hLs hLs0 hLs00 hL0 hbe ha2 hr hr2 r1 r2 hg
        go_enter Tryd.func4, Tryd.ntmps4
        go_wp2_with fail
        rw [← W0.out]
        clear W0
        refine (HF.out _).mono ?_
        rintro e u1 ⟨rfl, hb⟩
        have Z := Lib.hid (Z.out.on hb)
        have Y := Lib.hid (Y.out.on hb)
        have VA := Lib.hid (VA.out.on hb)
        have B := Lib.hid (B.out.trans (hb.mono B.out.size))
        clear hb  HF
        obtain ⟨p0, p1, p2, p3, p4⟩ := VA.out.box
        go_wp2_with fail
        refine (HA.out _ _ _ VA.out.at_ Y.out).mono ?_
        rintro e u2 ⟨rfl, hb⟩
        have Z := Lib.hid (Z.out.on hb)
        have Y := Lib.hid (Y.out.on hb)
        have VA := Lib.hid (VA.out.on hb)
        have B := Lib.hid (B.out.trans (hb.mono B.out.size))
        clear hb p0 p1 p2 p3 p4 HA
        obtain ⟨p0, p1, p2, p3, p4⟩ := VA.out.box
        go_wp2_with fail
        refine (HD.out _ _ _ _ _ Z.out Y.out).mono ?_
        rintro e u3 ⟨rfl, hb⟩
        have Z := Lib.hid (Z.out.on hb)
        have Y := Lib.hid (Y.out.on hb)
        have VA := Lib.hid (VA.out.on hb)
        have B := Lib.hid (B.out.trans (hb.mono B.out.size))
        clear hb p0 p1 p2 p3 p4 HD
        go_wp2
        go_ret
        exact ⟨rfl, B.out⟩
      · have hab : accOut d0 z2 = true := by rw [hab0, hacc]
        have HA := Lib.hid (fun W v cb (h : DfaAt W W.heap.size v d0) (hB : IntsAt W W.heap.size A2 z2) => acc_gives (cz := cb) (b := true) (E := .nilIface) h hB hr2 hab hae)
        have HD : Hid (∀ W A B ca cb, IntsAt W W.heap.size A z1 → IntsAt W W.heap.size B z2 → Calls Tryd.prog 16 #[.int .i64 L0, .slice A z1.length ca, .slice B z2.length cb] W fun e w' => e = .returned (.tuple #[.int .i64 ((lev z1 z2 : Nat) : Int), .nilIface]) ∧ Below W.heap.size W w') := fun W A B ca cb hA hB => by
          have h := dist_ok (c := ca) (d := cb) hLs hA hB hfz1 hfz2
          rw [hL0] at h
          exact h
        have ha1 := aErr_zero gd hfz1
        rcases mendO2_ways d0 z1 with ⟨e, ha, hm, hc⟩ | ⟨ha, hx, hm, hc⟩ | ⟨x, ha, hx, hl, hm, hc⟩ | ⟨x, ha, hx, hl, hm, hc⟩
        · omega
        · have := mend_none.1 hx z2 (fine_word hfz2)
          rw [hacc] at this; cases this
        · obtain ⟨hw1, hw2, hw3, hw4⟩ := mend_some hx
          obtain ⟨hle, heq⟩ := hw4 z2 (fine_word hfz2) hacc
          have hsm := word_small6 gd.l6 hw1
          obtain ⟨c, l⟩ := x
          simp only at hl hm hc hle heq hsm
          obtain ⟨far, hfar⟩ : ∃ far, lev z1 z2 = far := ⟨_, rfl⟩
          rw [hfar] at HD hle heq
          have e1 : ¬ ((c : Nat) : Int) > ((far : Nat) : Int) := by omega
          have e2 : ¬ ((c : Nat) : Int) < 0 := by omega
          have HC := Lib.hid (fun W v Z cz (h : DfaAt W W.heap.size v d0) (hZ : IntsAt W W.heap.size Z z1) => cost_gives (cz := cz) (C := (c : Int)) (E := .nilIface) h hZ hr hc rfl rfl)
          have HM := Lib.hid (fun W v Z cz (h : DfaAt W W.heap.size v d0) (hZ : IntsAt W W.heap.size Z z1) => mend_gives (cz := cz) (C := 0) (E := errI 4) (l := []) h hZ hr hm rfl rfl (fun x hx => by simp at hx))
          have HS := Lib.hid (fun W (hb : Below w.heap.size w W) => says_gives hg 4 (E := errI 4) (K := 4) rfl rfl W hb)
          clear hab hab0 hae hacc g1 g2 gd hfz1 hfz2 hLs hLs0 hLs00 hL0 hbe ha2 ha1 ha hx hm hc hw1 hw2 hw3 hw4 hfar hr hr2 r1 r2 hg hl hle heq hsm
          go_enter Tryd.func4, Tryd.ntmps4
          go_wp2_with fail
          rw [← W0.out]
          clear W0
          refine (HF.out _).mono ?_
          rintro e u1 ⟨rfl, hb⟩
          have Z := Lib.hid (Z.out.on hb)
          have Y := Lib.hid (Y.out.on hb)
          have VA := Lib.hid (VA.out.on hb)
          have B := Lib.hid (B.out.trans (hb.mono B.out.size))
          clear hb  HF
          obtain ⟨p0, p1, p2, p3, p4⟩ := VA.out.box
          go_wp2_with fail
          refine (HA.out _ _ _ VA.out.at_ Y.out).mono ?_
          rintro e u2 ⟨rfl, hb⟩
          have Z := Lib.hid (Z.out.on hb)
          have Y := Lib.hid (Y.out.on hb)
          have VA := Lib.hid (VA.out.on hb)
          have B := Lib.hid (B.out.trans (hb.mono B.out.size))
          clear hb p0 p1 p2 p3 p4 HA
          obtain ⟨p0, p1, p2, p3, p4⟩ := VA.out.box
          go_wp2_with fail
          refine (HD.out _ _ _ _ _ Z.out Y.out).mono ?_
          rintro e u3 ⟨rfl, hb⟩
          have Z := Lib.hid (Z.out.on hb)
          have Y := Lib.hid (Y.out.on hb)
          have VA := Lib.hid (VA.out.on hb)
          have B := Lib.hid (B.out.trans (hb.mono B.out.size))
          clear hb p0 p1 p2 p3 p4 HD
          obtain ⟨p0, p1, p2, p3, p4⟩ := VA.out.box
          go_wp2_with fail
          refine (HC.out _ _ _ _ VA.out.at_ Z.out).mono ?_
          rintro e u4 ⟨rfl, hb⟩
          have Z := Lib.hid (Z.out.on hb)
          have Y := Lib.hid (Y.out.on hb)
          have VA := Lib.hid (VA.out.on hb)
          have B := Lib.hid (B.out.trans (hb.mono B.out.size))
          clear hb p0 p1 p2 p3 p4 HC
          obtain ⟨p0, p1, p2, p3, p4⟩ := VA.out.box
          go_wp2_with fail
          refine (HM.out _ _ _ _ VA.out.at_ Z.out).mono ?_
          rintro e u5 ⟨AI, cI, rfl, hI, hb⟩
          have Z := Lib.hid (Z.out.on hb)
          have Y := Lib.hid (Y.out.on hb)
          have VA := Lib.hid (VA.out.on hb)
          have B := Lib.hid (B.out.trans (hb.mono B.out.size))
          clear hb p0 p1 p2 p3 p4 HM
          clear hI
          go_wp2_with fail
          refine (HS.out _ B.out).mono ?_
          rintro e u6 ⟨rfl, hb⟩
          have Z := Lib.hid (Z.out.on hb)
          have Y := Lib.hid (Y.out.on hb)
          have VA := Lib.hid (VA.out.on hb)
          have B := Lib.hid (B.out.trans (hb.mono B.out.size))
          clear hb  HS
          go_wp2
          go_ret
          exact ⟨rfl, B.out⟩
        · obtain ⟨hw1, hw2, hw3, hw4⟩ := mend_some hx
          obtain ⟨hle, heq⟩ := hw4 z2 (fine_word hfz2) hacc
          have hsm := word_small6 gd.l6 hw1
          obtain ⟨c, l⟩ := x
          simp only at hl hm hc hle heq hsm
          obtain ⟨far, hfar⟩ : ∃ far, lev z1 z2 = far := ⟨_, rfl⟩
          rw [hfar] at HD hle heq
          have e1 : ¬ ((c : Nat) : Int) > ((far : Nat) : Int) := by omega
          have e2 : ¬ ((c : Nat) : Int) < 0 := by omega
          have HC := Lib.hid (fun W v Z cz (h : DfaAt W W.heap.size v d0) (hZ : IntsAt W W.heap.size Z z1) => cost_gives (cz := cz) (C := (c : Int)) (E := .nilIface) h hZ hr hc rfl rfl)
          have HM := Lib.hid (fun W v Z cz (h : DfaAt W W.heap.size v d0) (hZ : IntsAt W W.heap.size Z z1) => mend_gives (cz := cz) (C := (c : Int)) (E := .nilIface) (l := l) h hZ hr hm rfl rfl hsm)
          have hl80 := hfz2.2.1
          by_cases hgt : far > c
          · have e3 : ((far : Nat) : Int) > ((c : Nat) : Int) := by omega
            clear hab hab0 hae hacc g1 g2 gd hfz1 hfz2 hLs hLs0 hLs00 hL0 hbe ha2 ha1 ha hx hm hc hw1 hw2 hw3 hw4 hfar hr hr2 r1 r2 hg hl hle heq hsm hl80 hgt
            go_enter Tryd.func4, Tryd.ntmps4
            go_wp2_with fail
            rw [← W0.out]
            clear W0
            refine (HF.out _).mono ?_
            rintro e u1 ⟨rfl, hb⟩
            have Z := Lib.hid (Z.out.on hb)
            have Y := Lib.hid (Y.out.on hb)
            have VA := Lib.hid (VA.out.on hb)
            have B := Lib.hid (B.out.trans (hb.mono B.out.size))
            clear hb  HF
            obtain ⟨p0, p1, p2, p3, p4⟩ := VA.out.box
            go_wp2_with fail
            refine (HA.out _ _ _ VA.out.at_ Y.out).mono ?_
            rintro e u2 ⟨rfl, hb⟩
            have Z := Lib.hid (Z.out.on hb)
            have Y := Lib.hid (Y.out.on hb)
            have VA := Lib.hid (VA.out.on hb)
            have B := Lib.hid (B.out.trans (hb.mono B.out.size))
            clear hb p0 p1 p2 p3 p4 HA
            obtain ⟨p0, p1, p2, p3, p4⟩ := VA.out.box
            go_wp2_with fail
            refine (HD.out _ _ _ _ _ Z.out Y.out).mono ?_
            rintro e u3 ⟨rfl, hb⟩
            have Z := Lib.hid (Z.out.on hb)
            have Y := Lib.hid (Y.out.on hb)
            have VA := Lib.hid (VA.out.on hb)
            have B := Lib.hid (B.out.trans (hb.mono B.out.size))
            clear hb p0 p1 p2 p3 p4 HD
            obtain ⟨p0, p1, p2, p3, p4⟩ := VA.out.box
            go_wp2_with fail
            refine (HC.out _ _ _ _ VA.out.at_ Z.out).mono ?_
            rintro e u4 ⟨rfl, hb⟩
            have Z := Lib.hid (Z.out.on hb)
            have Y := Lib.hid (Y.out.on hb)
            have VA := Lib.hid (VA.out.on hb)
            have B := Lib.hid (B.out.trans (hb.mono B.out.size))
            clear hb p0 p1 p2 p3 p4 HC
            obtain ⟨p0, p1, p2, p3, p4⟩ := VA.out.box
            go_wp2_with fail
            refine (HM.out _ _ _ _ VA.out.at_ Z.out).mono ?_
            rintro e u5 ⟨AI, cI, rfl, hI, hb⟩
            have Z := Lib.hid (Z.out.on hb)
            have Y := Lib.hid (Y.out.on hb)
            have VA := Lib.hid (VA.out.on hb)
            have B := Lib.hid (B.out.trans (hb.mono B.out.size))
            clear hb p0 p1 p2 p3 p4 HM
            clear hI
            go_wp2
            go_ret
            exact ⟨rfl, B.out⟩
          · have e3 : ¬ ((far : Nat) : Int) > ((c : Nat) : Int) := by omega
            have hls := heq (by omega)
            have HLs : Hid (∀ W A B ca cb, IntsAt W W.heap.size A z2 → IntsAt W W.heap.size B l → Calls Tryd.prog 17 #[.slice A z2.length ca, .slice B l.length cb] W fun e w' => e = .returned (.bool false) ∧ Below W.heap.size W w') := fun W A B ca cb h1 h2 => (refLess_any A ca z2 B cb l W h1 h2 (by omega) (by omega)).mono fun e w' ⟨h3, n, h4⟩ => ⟨by rw [h3.out, hls], by rw [h4]; exact below_drewN (Below.refl _ _) n⟩
            clear hab hab0 hae hacc g1 g2 gd hfz1 hfz2 hLs hLs0 hLs00 hL0 hbe ha2 ha1 ha hx hm hc hw1 hw2 hw3 hw4 hfar hr hr2 r1 r2 hg hl hle heq hsm hl80 hgt hls
            generalize l.length = n at *
            go_enter Tryd.func4, Tryd.ntmps4
            go_wp2_with fail
            rw [← W0.out]
            clear W0
            refine (HF.out _).mono ?_
            rintro e u1 ⟨rfl, hb⟩
            have Z := Lib.hid (Z.out.on hb)
            have Y := Lib.hid (Y.out.on hb)
            have VA := Lib.hid (VA.out.on hb)
            have B := Lib.hid (B.out.trans (hb.mono B.out.size))
            clear hb  HF
            obtain ⟨p0, p1, p2, p3, p4⟩ := VA.out.box
            go_wp2_with fail
            refine (HA.out _ _ _ VA.out.at_ Y.out).mono ?_
            rintro e u2 ⟨rfl, hb⟩
            have Z := Lib.hid (Z.out.on hb)
            have Y := Lib.hid (Y.out.on hb)
            have VA := Lib.hid (VA.out.on hb)
            have B := Lib.hid (B.out.trans (hb.mono B.out.size))
            clear hb p0 p1 p2 p3 p4 HA
            obtain ⟨p0, p1, p2, p3, p4⟩ := VA.out.box
            go_wp2_with fail
            refine (HD.out _ _ _ _ _ Z.out Y.out).mono ?_
            rintro e u3 ⟨rfl, hb⟩
            have Z := Lib.hid (Z.out.on hb)
            have Y := Lib.hid (Y.out.on hb)
            have VA := Lib.hid (VA.out.on hb)
            have B := Lib.hid (B.out.trans (hb.mono B.out.size))
            clear hb p0 p1 p2 p3 p4 HD
            obtain ⟨p0, p1, p2, p3, p4⟩ := VA.out.box
            go_wp2_with fail
            refine (HC.out _ _ _ _ VA.out.at_ Z.out).mono ?_
            rintro e u4 ⟨rfl, hb⟩
            have Z := Lib.hid (Z.out.on hb)
            have Y := Lib.hid (Y.out.on hb)
            have VA := Lib.hid (VA.out.on hb)
            have B := Lib.hid (B.out.trans (hb.mono B.out.size))
            clear hb p0 p1 p2 p3 p4 HC
            obtain ⟨p0, p1, p2, p3, p4⟩ := VA.out.box
            go_wp2_with fail
            refine (HM.out _ _ _ _ VA.out.at_ Z.out).mono ?_
            rintro e u5 ⟨AI, cI, rfl, hI, hb⟩
            have Z := Lib.hid (Z.out.on hb)
            have Y := Lib.hid (Y.out.on hb)
            have VA := Lib.hid (VA.out.on hb)
            have B := Lib.hid (B.out.trans (hb.mono B.out.size))
            clear hb p0 p1 p2 p3 p4 HM
            have I := Lib.hid hI.out
            clear hI
            go_wp2_with fail
            refine (HLs.out _ _ _ _ _ Y.out I.out).mono ?_
            rintro e u6 ⟨rfl, hb⟩
            have Z := Lib.hid (Z.out.on hb)
            have Y := Lib.hid (Y.out.on hb)
            have I := Lib.hid (I.out.on hb)
            have VA := Lib.hid (VA.out.on hb)
            have B := Lib.hid (B.out.trans (hb.mono B.out.size))
            clear hb  HLs
            go_wp2
            go_ret
            exact ⟨rfl, B.out⟩
    · have hdb : (distOut L0 z1 z2).2 ≠ 0 := by
        unfold distOut
        by_cases h : chk2 L0 z1 z2 = 0
        · exact absurd (by rw [hL0]; exact (chk2_iff.1 h).1) hfz1
        · rw [if_neg h]; exact h
      obtain ⟨E2, hE2⟩ := errV_bad hdb
      rw [hE2] at HDa
      have HA := Lib.hid (fun W v cb (h : DfaAt W W.heap.size v d0) (hB : IntsAt W W.heap.size A2 z2) => acc_gives (cz := cb) (b := (accA d0 z2)) (E := .nilIface) h hB hr2 hab0 hae)
      generalize accA d0 z2 = b at *
      clear hab0 hae g1 g2 gd hfz1 hfz2 hLs hLs0 hLs00 hL0 hbe ha2 hdb hE2 hr hr2 r1 r2 hg
      go_enter Tryd.func4, Tryd.ntmps4
      go_wp2_with fail
      rw [← W0.out]
      clear W0
      refine (HF.out _).mono ?_
      rintro e u1 ⟨rfl, hb⟩
      have Z := Lib.hid (Z.out.on hb)
      have Y := Lib.hid (Y.out.on hb)
      have VA := Lib.hid (VA.out.on hb)
      have B := Lib.hid (B.out.trans (hb.mono B.out.size))
      clear hb  HF
      obtain ⟨p0, p1, p2, p3, p4⟩ := VA.out.box
      go_wp2_with fail
      refine (HA.out _ _ _ VA.out.at_ Y.out).mono ?_
      rintro e u2 ⟨rfl, hb⟩
      have Z := Lib.hid (Z.out.on hb)
      have Y := Lib.hid (Y.out.on hb)
      have VA := Lib.hid (VA.out.on hb)
      have B := Lib.hid (B.out.trans (hb.mono B.out.size))
      clear hb p0 p1 p2 p3 p4 HA
      obtain ⟨p0, p1, p2, p3, p4⟩ := VA.out.box
      go_wp2_with fail
      refine (HDa.out _ _ _ _ _ Z.out Y.out).mono ?_
      rintro e u3 ⟨⟨nn, rfl⟩, hb⟩
      have Z := Lib.hid (Z.out.on hb)
      have Y := Lib.hid (Y.out.on hb)
      have VA := Lib.hid (VA.out.on hb)
      have B := Lib.hid (B.out.trans (hb.mono B.out.size))
      clear hb p0 p1 p2 p3 p4 HDa
      go_wp2
      go_ret
      exact ⟨rfl, B.out⟩
  · obtain ⟨E, hE⟩ := errV_bad ha2
    have hae : errV (accErr d0 z2) = errI E := by rw [hbe]; exact hE
    have HA := Lib.hid (fun W v cb (h : DfaAt W W.heap.size v d0) (hB : IntsAt W W.heap.size A2 z2) => acc_gives (cz := cb) (b := (accOut d0 z2)) (E := errI E) h hB hr2 rfl hae)
    generalize accOut d0 z2 = b at *
    generalize errV (distOut L0 z1 z2).2 = E2 at *
    clear hae hE hLs0 hLs00 hL0 hbe ha2 hr hr2 r1 r2 hg
    go_enter Tryd.func4, Tryd.ntmps4
    go_wp2_with fail
    rw [← W0.out]
    clear W0
    refine (HF.out _).mono ?_
    rintro e u1 ⟨rfl, hb⟩
    have Z := Lib.hid (Z.out.on hb)
    have Y := Lib.hid (Y.out.on hb)
    have VA := Lib.hid (VA.out.on hb)
    have B := Lib.hid (B.out.trans (hb.mono B.out.size))
    clear hb  HF
    obtain ⟨p0, p1, p2, p3, p4⟩ := VA.out.box
    go_wp2_with fail
    refine (HA.out _ _ _ VA.out.at_ Y.out).mono ?_
    rintro e u2 ⟨rfl, hb⟩
    have Z := Lib.hid (Z.out.on hb)
    have Y := Lib.hid (Y.out.on hb)
    have VA := Lib.hid (VA.out.on hb)
    have B := Lib.hid (B.out.trans (hb.mono B.out.size))
    clear hb p0 p1 p2 p3 p4 HA
    obtain ⟨p0, p1, p2, p3, p4⟩ := VA.out.box
    go_wp2_with fail
    refine (HDa.out _ _ _ _ _ Z.out Y.out).mono ?_
    rintro e u3 ⟨⟨nn, rfl⟩, hb⟩
    have Z := Lib.hid (Z.out.on hb)
    have Y := Lib.hid (Y.out.on hb)
    have VA := Lib.hid (VA.out.on hb)
    have B := Lib.hid (B.out.trans (hb.mono B.out.size))
    clear hb p0 p1 p2 p3 p4 HDa
    go_wp2
    go_ret
    exact ⟨rfl, B.out⟩


set_option maxRecDepth 100000 in
theorem lifted (os : Os) (started : os.Started) (H : Type) (enc : TypeId × Value → H) :
    ReturnsInHanded {} Tryd.checked os 4 .any (fun w args => (Rows.mendLeastSpec.pre enc Tryd.prog Tryd.f4 Rows.mendLeastRow.domain false w args ∧ laidMetH Tryd.prog [("errors.errorType", Rows.laid_errors_errorType)] w) ∧ sizedMet enc Tryd.prog Tryd.f4 (OpenSpec.ofChange Rows.mendLeastSpec) false w args) (Rows.mendLeastSpec.post enc Tryd.prog Tryd.f4 false true false false) := by
  refine returnsInHanded_of_change_and (C := Tryd.checked) (X := fun w _ => laidMetH Tryd.prog [("errors.errorType", Rows.laid_errors_errorType)] w) (fun _ _ _ hh h => h.of_heap hh) own started (by kernel_rfl) Tryd.func4
    (ChangeSpec.witness_at (enc := enc) (C := Tryd.checked) (os := os) (X := fun w _ => laidMetH Tryd.prog [("errors.errorType", Rows.laid_errors_errorType)] w) false (laidWorld os) #[.agg #[.int .i64 0, .int .i64 0, .slice none 0 0, .slice none 0 0], .slice none 0 0, .slice none 0 0] 8 rfl (by kernel_rfl) (by kernel_rfl) (by kernel_rfl) (by kernel_rfl) (by kernel_rfl) (laidWorld_met os _)) ?_
  intro W base args ds gs before hval0 hW hcnd hsz0 hL _
  have hval : ∀ (j : Nat) t v, Tryd.f4.params[j]? = some t → args[j]? = some v → Value.okWide Tryd.prog W .any base t v := hval0
  have hsz : (DataW.weightsEach Tryd.prog (Tryd.f4.params.toList ++ Rows.mendLeastSpec.plain.varTypes Tryd.prog) (ds ++ gs)).all (· ≤ reachBytes) = true := hsz0
  have hW' := hW
  obtain ⟨p, q, hA0, hV0, rfl, hfz, hnd⟩ := hW
  have hV : DataW.TrodVars enc Tryd.prog W (fun _ => true) [] gs q := hV0
  have hA : DataW.TrodAll enc Tryd.prog W 0 (fun _ => true) true Tryd.f4.params.toList args.toList ds p := hA0
  rw [Tryd.params4] at hA hval hsz
  obtain ⟨v0, vs0, d0, ds0, p0, q0, hargs, rfl, rfl, h0, rr0⟩ := trodAll_cons hA
  obtain ⟨v1, vs1, d1, ds1, p1, q1, rfl, rfl, rfl, h1, rr1⟩ := trodAll_cons rr0
  obtain ⟨v2, vs2, d2, ds2, p2, q2, rfl, rfl, rfl, h2, rr2⟩ := trodAll_cons rr1
  obtain ⟨rfl, rfl, rfl⟩ := trodAll_nil rr2
  obtain rfl : args = #[v0, v1, v2] := by cases args; simp_all
  obtain ⟨rfl, rfl⟩ := trodVars_none hV
  have k0 := h0
  have lt0 : ∀ x ∈ p0, x.block < W.heap.size := by obtain ⟨m, hm⟩ := k0; exact DataW.trod_lt m _ _ _ hm
  have k1 := h1
  have lt1 : ∀ x ∈ p1, x.block < W.heap.size := by obtain ⟨m, hm⟩ := k1; exact DataW.trod_lt m _ _ _ hm
  have k2 := h2
  have lt2 : ∀ x ∈ p2, x.block < W.heap.size := by obtain ⟨m, hm⟩ := k2; exact DataW.trod_lt m _ _ _ hm
  obtain ⟨D0, x0⟩ : ∃ d : Df.Aut, Df.DfaAt W W.heap.size v0 d := Df.dfa_open (hval 0 25 v0 rfl rfl) h0
  obtain ⟨A1, len1, c1, rfl⟩ := okWide_slice Tryd.underlying26 (hval 1 26 v1 rfl rfl)
  obtain ⟨z1, rfl, x1, r1, m1⟩ : ∃ zs : List Int, len1 = zs.length ∧ IntsAt W W.heap.size A1 zs ∧ zs.length ≤ 17592186043904 ∧ zs.length ≤ c1 := by
    obtain ⟨fuel, hf⟩ := h1
    rcases open_ints Tryd.underlying26 Tryd.underlying3 (by kernel_rfl) hf with ⟨hcs, _⟩ | ⟨x, l, c, zs, hcs, _, hl, hm, hz, hx, hcell, hwz⟩
    · simp [Value.cells] at hcs
      obtain ⟨rfl, rfl, rfl⟩ := hcs
      exact ⟨[], rfl, IntsAt.nil _ _ _, by simp, by simp⟩
    · simp [Value.cells] at hcs
      obtain ⟨rfl, rfl, rfl⟩ := hcs
      have hd := congrArg Prod.fst hx
      simp only at hd
      have := sized_slice hsz (j := 1) (t := 26) (e := 3) rfl (by rw [hd]; rfl) Tryd.underlying26
      rw [(show Tryd.prog.bytesOf 3 = 8 by kernel_rfl)] at this
      simp only [reachBytes, lits, List.length_map, List.length_take, List.length_drop] at this
      have hz' : zs.length = c1 := by simpa using hz
      exact ⟨zs.take len1, by rw [List.length_take]; omega, intsAt_of_open hcell hwz len1, by rw [List.length_take]; omega, by rw [List.length_take]; omega⟩
  obtain ⟨A2, len2, c2, rfl⟩ := okWide_slice Tryd.underlying26 (hval 2 26 v2 rfl rfl)
  obtain ⟨z2, rfl, x2, r2, m2⟩ : ∃ zs : List Int, len2 = zs.length ∧ IntsAt W W.heap.size A2 zs ∧ zs.length ≤ 17592186043904 ∧ zs.length ≤ c2 := by
    obtain ⟨fuel, hf⟩ := h2
    rcases open_ints Tryd.underlying26 Tryd.underlying3 (by kernel_rfl) hf with ⟨hcs, _⟩ | ⟨x, l, c, zs, hcs, _, hl, hm, hz, hx, hcell, hwz⟩
    · simp [Value.cells] at hcs
      obtain ⟨rfl, rfl, rfl⟩ := hcs
      exact ⟨[], rfl, IntsAt.nil _ _ _, by simp, by simp⟩
    · simp [Value.cells] at hcs
      obtain ⟨rfl, rfl, rfl⟩ := hcs
      have hd := congrArg Prod.fst hx
      simp only at hd
      have := sized_slice hsz (j := 2) (t := 26) (e := 3) rfl (by rw [hd]; rfl) Tryd.underlying26
      rw [(show Tryd.prog.bytesOf 3 = 8 by kernel_rfl)] at this
      simp only [reachBytes, lits, List.length_map, List.length_take, List.length_drop] at this
      have hz' : zs.length = c2 := by simpa using hz
      exact ⟨zs.take len2, by rw [List.length_take]; omega, intsAt_of_open hcell hwz len2, by rw [List.length_take]; omega, by rw [List.length_take]; omega⟩
  clear hA0 hval0
  refine (walk v0 D0 A1 c1 z1 A2 c2 z2 W x0 x1 r1 m1 x2 r2 m2 (handle_of_laid hL)).mono fun e W' ⟨he, bel⟩ => ?_
  subst he
  exact ⟨_, rfl, _, _, _, [], _, [], hW', trodAll_mk1 (shut_bool Tryd.underlying4 _), (trodAll_cons_mk (Below.trod laidOut (by kernel_rfl) (of_decide_eq_true (by kernel_rfl)) k0 bel lt0) (trodAll_cons_mk (Below.trod laidOut (by kernel_rfl) (of_decide_eq_true (by kernel_rfl)) k1 bel lt1) (trodAll_cons_mk (Below.trod laidOut (by kernel_rfl) (of_decide_eq_true (by kernel_rfl)) k2 bel lt2) trodAll_mk0))), rfl, bel.frame _, fun h => by cases h⟩

theorem over : Rows.mendLeastRow.holds Tryd.pinned (OpenSpec.ofChange Rows.mendLeastSpec) :=
  OpenClaim.holds_of_wide 4 Tryd.f4 rfl rfl rfl rfl rfl rfl rfl ⟨rfl, rfl, rfl, rfl, rfl⟩ rfl rfl rfl rfl rfl (by kernel_rfl) Tryd.func4 (by kernel_rfl)
    (of_decide_eq_true (by kernel_rfl)) (by unfold Func.isWrapper; rw [if_neg (of_decide_eq_false (by kernel_rfl))]; exact ⟨rfl, rfl⟩)
    (fun os started H enc _ => lifted os started H enc)
theorem proved : Rows.MendLeastCardSaid :=
  Claim7.holds_tied_plain_at .later [] [.handle] true (true, "40a282adc493d4c8acbf3f0bcad454e62a5c808698ec6aa269d6144ae7a916ac") true
    over (fun _ h => by cases h) (by kernel_rfl) (fun _ h => by cases h) mendLeast_row_tie rfl ⟨rfl, rfl⟩ (by kernel_rfl) rfl
    (fun f fn hf hfn => by
      obtain rfl : f = 4 := Option.some.inj ((show Tryd.prog.funcNamed "stileward/stilewardlaw4.MendLeast" = some 4 by kernel_rfl).symm.trans hf) |>.symm
      obtain rfl : fn = Tryd.f4 := (Option.some.inj (Tryd.func4.symm.trans hfn)).symm
      exact ⟨by kernel_rfl, fun j t ht => by
        rw [Tryd.params4] at ht
        rcases j with _ | _ | _ | j
        · obtain rfl : 25 = t := by simpa using ht
          exact (show Tryd.prog.wantsStandIn 25 = false by kernel_rfl)
        · obtain rfl : 26 = t := by simpa using ht
          exact (show Tryd.prog.wantsStandIn 26 = false by kernel_rfl)
        · obtain rfl : 26 = t := by simpa using ht
          exact (show Tryd.prog.wantsStandIn 26 = false by kernel_rfl)
        · simp at ht⟩)
    (by kernel_rfl)
#print axioms proved
end Go.Proofs.YtfiknbdpjnpkdaaDoor.mendLeast
