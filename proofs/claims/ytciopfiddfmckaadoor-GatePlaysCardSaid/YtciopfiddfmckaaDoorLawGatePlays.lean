/-
  The statement GatePlaysCardSaid of this seat, proved: for every input the law returns true and its arguments read behind the call as before. Conditions: none but the row's own (each argument within the reach; the listed variable as the program lays it, tied by the given tie).
-/
import Derived.Test.YtciopfiddfmckaaDoorRows
import Derived.Test.YtciopfiddfmckaaDoorCards
import Derived.Test.YtciopfiddfmckaaDoorTie
import Derived.SevenTiedAt
import Derived.LaidLaws
import Derived.LaidHandle
import Derived.LaidMore
import Derived.Lay
import Derived.MakeChecks
import Derived.Stop.Joined
import Derived.JoinedOf
import Derived.RowKit
import Derived.RowKitTokens
import Derived.ChangeSame
import Derived.ChangeVars
import Derived.Test.YtciopfiddfmckaaDoorWords
import Derived.WalkKit
import Derived.ProofKit
import Derived.OpenShut
import Derived.ShutString
import Derived.ChangeOld
import Derived.Below
import Derived.SizedLaws
import Derived.Lib.Hide
import Derived.Test.YtciopfiddfmckaaDoorGateL
import Derived.Test.YtciopfiddfmckaaDoorRefDfa
import Derived.Test.YtciopfiddfmckaaDoorRefCls
import Derived.Test.YtciopfiddfmckaaDoorSays
import Derived.Test.YtciopfiddfmckaaDoorDfaV
namespace Go.Proofs.YtciopfiddfmckaaDoor.gatePlays
open Go.ChangeShapes Go.WideShapes Go.ChangeAt Go.RowKit Go.IntWalk Go.Proofs.YtciopfiddfmckaaDoor.Wd
open Go.ChangeMaps (open_string shut_string)
set_option linter.unusedVariables false

theorem own : ownKnob Tryd.prog.godebug = none := by kernel_rfl
theorem laidOut : laidOutB Tryd.prog = true := by kernel_rfl
theorem et : Tryd.prog.globalNamed "errors.errorType" = some 0 := by kernel_rfl
theorem rt : (Tryd.prog.cutTypes.find? (·.1 == "internal/reflectlite.rtype")).map (·.2) = some 137 := by kernel_rfl
theorem oneRow : ((List.range 180).filter fun t => Tryd.prog.rowNamed t [101, 114, 114, 111, 114]) = [30] := by kernel_rfl
theorem size : Tryd.prog.types.size = 180 := by kernel_rfl
/-- What the condition gives a walk: the variable's one cell. -/
theorem handle_of_laid {w : World} (h : laidMetH Tryd.prog [("errors.errorType", Rows.laid_errors_errorType)] w) : w.cell? ⟨0, 0, none⟩ = some (.iface 137 (.agg #[.pointer (some ⟨1, 30, none⟩)])) := by
  have h' : laidMet Tryd.prog [] w ∧ handlesMet Tryd.prog [("errors.errorType", Rows.laid_errors_errorType)] w := h
  obtain ⟨name, u, ty, e1, e2, e3, e4, e5⟩ := h'.2 _ (List.mem_singleton.2 rfl)
  have en : name = [101, 114, 114, 111, 114] := (Option.some.inj e1).symm
  subst en
  obtain rfl := Option.some.inj (rt.symm.trans e2)
  have hm : ty ∈ (List.range 180).filter fun t => Tryd.prog.rowNamed t [101, 114, 114, 111, 114] := List.mem_filter.2 ⟨List.mem_range.2 (by rw [← size]; exact e3), e4⟩
  rw [oneRow] at hm
  obtain rfl := List.mem_singleton.1 hm
  have hh : typeHandle Tryd.prog 30 = .pointer (some ⟨1, 30, none⟩) := by kernel_rfl
  rw [hh] at e5
  simpa using World.var?_cell et e5 0
/-- A world that meets the condition. -/
noncomputable def laidWorld (os : Os) : World :=
  let w0 := World.holding Tryd.prog os ⟨#[], #[], []⟩
  { w0 with heap := w0.heap.modify 0 fun
      | .cells _ t frozen => .cells #[.iface 137 (.agg #[.pointer (some ⟨1, 30, none⟩)])] t frozen
      | o => o }
theorem laidWorld_met (os : Os) (args : Array Value) : laidMetH Tryd.prog [("errors.errorType", Rows.laid_errors_errorType)] ((laidWorld os).forCall (fun _ _ => 0) ⟨#[], args, []⟩).memory :=
  laidMetH_of_parts (laidMet_nil _ _) (by kernel_rfl)
open Go.Proofs.YtciopfiddfmckaaDoor.Wo Go.Proofs.YtciopfiddfmckaaDoor.Er Go.Proofs.YtciopfiddfmckaaDoor.Df Go.Proofs.YtciopfiddfmckaaDoor.Rc Go.Proofs.YtciopfiddfmckaaDoor.Sm Go.Proofs.YtciopfiddfmckaaDoor.Mp Go.Proofs.YtciopfiddfmckaaDoor.Sa Go.Proofs.YtciopfiddfmckaaDoor.Ga
theorem says_gives {w : World} (hg : w.cell? ⟨0, 0, none⟩ = some (.iface 137 (.agg #[.pointer (some ⟨1, 30, none⟩)]))) (e : Nat) {E : Value} {K : Int} (hE : errV e = E) (hK : (e : Int) = K) (W : World) (hb : Below w.heap.size w W) :
    Calls Tryd.prog 14 #[E, .int .i64 K] W fun r w' => r = .returned (.bool true) ∧ Below W.heap.size W w' := by
  subst hE
  subst hK
  exact says e hg W hb
theorem gout_len {w0 w : World} {g n : Nat} {d : Aut} {G : Gt} {es fs : List Ent} (hn : G.out.length = n) (hG : GateW w0 w g d G es fs) (hd : Df.Good d) (hk : Gok d G) :
    Calls Tryd.prog 20 #[.pointer (some ⟨g, 0, none⟩)] w fun e w' => ∃ A c, e = .returned (.slice A n c) ∧ Hid (IntsAt w' w'.heap.size A G.out) ∧ Below w.heap.size w w' := by
  subst hn
  exact (gout_gives hG hd hk).mono fun e w' ⟨A, c, h1, h2, _, h3⟩ => ⟨A, c, h1, h2, h3⟩
theorem ints_len {w0 w : World} {g n cx : Nat} {d : Aut} {G : Gt} {es fs : List Ent} {Ax A : Option Addr} (hn : G.out.length = n) (hG : GateW w0 w g d G (eInts (.slice Ax n cx) G.out :: es) fs) (hd : Df.Good d) (hk : Gok d G) (ca : Nat) (hA : IntsAt w w.heap.size A G.out) :
    Calls Tryd.prog 19 #[.slice A n ca, .slice Ax n cx] w fun e w' => e = .returned (.bool true) ∧ Below w.heap.size w w' := by
  subst hn
  obtain ⟨Ay, cy, ey, _, hy⟩ := hG.ints (l := G.out) List.mem_cons_self (letter_small hd hk.word)
  rw [ey]
  exact same_ints hA hy (by have := hk.len; omega)

set_option maxRecDepth 100000 in
set_option maxHeartbeats 4000000 in
theorem walk (v0 : Value) (d0 : Df.Aut) (A1 : Option Addr) (c1 : Nat) (z1 : List Int) (w : World) (h0 : Df.DfaAt w w.heap.size v0 d0) (v1 : IntsAt w w.heap.size A1 z1) (r1 : z1.length ≤ 17592186043904) (m1 : z1.length ≤ c1) (hg : w.cell? ⟨0, 0, none⟩ = some (.iface 137 (.agg #[.pointer (some ⟨1, 30, none⟩)]))) :
    Calls Tryd.prog 4 #[v0, .slice A1 z1.length c1] w fun e w' => e = .returned (.bool true) ∧ Below w.heap.size w w' := by
  have hV := h0
  obtain ⟨L0, s0, A0, ca, F0, cf, rfl, h⟩ := h0
  obtain ⟨w1, hw1, hB1, hX, hd1⟩ := box_dfa w h
  have HB := Lib.hid hB1
  have HX := Lib.hid hX
  have HD := Lib.hid hd1
  have HV := Lib.hid (hV.on hB1)
  have HW := Lib.hid hw1
  have Z := Lib.hid (v1.on hB1)
  have HLE := Lib.hid (And.intro h.eL h.es)
  have hc0 := hX.c0
  have hc1 := hX.c1
  have hc2 := hX.c2
  have hc3 := hX.c3
  have HRD := Lib.hid (fun W v (h : DfaAt W W.heap.size v d0) => rdfa_any v d0 W h)
  clear hw1 hB1 hX hd1 hV h v1 m1
  obtain ⟨n, hn⟩ : ∃ n, d0.next.length = n := ⟨_, rfl⟩
  obtain ⟨m, hm⟩ : ∃ m, d0.fin.length = m := ⟨_, rfl⟩
  rw [hn, hm] at HW HX HV
  rw [hn] at hc2
  rw [hm] at hc3
  rw [hn, hm]
  have HN := Lib.hid hn
  have HM := Lib.hid hm
  clear hn hm
  obtain ⟨zl, hzl⟩ : ∃ zl, z1.length = zl := ⟨_, rfl⟩
  rw [hzl] at r1 ⊢
  have HL := Lib.hid hzl
  clear hzl
  by_cases g1 : dchk d0 = 0
  · have hd := dchk_iff.1 g1
    have HC := Lib.hid (fun W v (h : DfaAt W W.heap.size v d0) => rclass_any v d0 W h hd)
    rw [g1] at HRD
    obtain ⟨q0, rfl⟩ : ∃ q : Nat, s0 = (q : Int) := ⟨s0.toNat, by have := hd.st.1; rw [HLE.out.2] at this; omega⟩
    have hst : d0.s.toNat = q0 := by rw [HLE.out.2, Int.toNat_natCast]
    have hfin := hd.fin_at hd.s_lt
    rw [hst] at hfin
    have hem : accA d0 [] = finA d0 q0 := by rw [← hst]; rfl
    have h3 := Ga.class_le d0
    by_cases hev : classA d0 % 2 = 0
    · have hgc : gchk d0 = 3 := by unfold gchk; rw [if_neg (by omega), if_pos hev]
      have HNw := Lib.hid (fun W v (h : DfaAt W W.heap.size v d0) => gnew_bad v d0 W h (by omega))
      rw [hgc] at HNw
      have HSay := Lib.hid (fun W hb => says_gives hg 3 (E := errI 3) (K := 3) rfl rfl W hb)
      have hk : classA d0 = 0 ∨ classA d0 = 2 := by omega
      clear g1 hd hst hfin hem h3 hev hgc hg
      generalize classA d0 = kc at *
      rcases hk with rfl | rfl
      · as_aux_lemma =>
          go_enter Tryd.func4, Tryd.ntmps4
          go_wp2_with fail
          rw [← HW.out]
          clear HW
          refine (HRD.out _ _ HV.out).mono ?_
          rintro e b1 ⟨he, hb⟩
          obtain rfl : e = .returned (.int .i64 0) := he.out
          have HX := Lib.hid (HX.out.on hb)
          have HD := Lib.hid (HD.out.on hb)
          have HV := Lib.hid (HV.out.on hb)
          have Z := Lib.hid (Z.out.on hb)
          have HB := Lib.hid (HB.out.trans (hb.mono HB.out.size))
          clear hb he HRD hc0 hc1 hc2 hc3
          have hc0 := HX.out.c0
          have hc1 := HX.out.c1
          have hc2 := HX.out.c2
          have hc3 := HX.out.c3
          go_wp2_with fail
          refine (HC.out _ _ HV.out).mono ?_
          rintro e b2 ⟨he, hb⟩
          obtain rfl := he.out
          have HX := Lib.hid (HX.out.on hb)
          have HD := Lib.hid (HD.out.on hb)
          have HV := Lib.hid (HV.out.on hb)
          have Z := Lib.hid (Z.out.on hb)
          have HB := Lib.hid (HB.out.trans (hb.mono HB.out.size))
          clear hb he HC hc0 hc1 hc2 hc3
          have hc0 := HX.out.c0
          have hc1 := HX.out.c1
          have hc2 := HX.out.c2
          have hc3 := HX.out.c3
          go_wp2_with fail
          refine (HNw.out _ _ HV.out).mono ?_
          rintro e b3 ⟨he, hb⟩
          obtain rfl : e = .returned (.tuple #[.pointer none, errI 3]) := he.out
          have HX := Lib.hid (HX.out.on hb)
          have HD := Lib.hid (HD.out.on hb)
          have HV := Lib.hid (HV.out.on hb)
          have Z := Lib.hid (Z.out.on hb)
          have HB := Lib.hid (HB.out.trans (hb.mono HB.out.size))
          clear hb he HNw hc0 hc1 hc2 hc3
          have HSy := Lib.hid (HSay.out b3 HB.out)
          clear HSay
          go_wp2_with fail
          refine HSy.out.mono ?_
          rintro e b4 ⟨rfl, hb⟩
          have HB := Lib.hid (HB.out.trans (hb.mono HB.out.size))
          clear hb HSy
          go_wp2
          go_ret
          exact ⟨rfl, HB.out⟩
      · as_aux_lemma =>
          go_enter Tryd.func4, Tryd.ntmps4
          go_wp2_with fail
          rw [← HW.out]
          clear HW
          refine (HRD.out _ _ HV.out).mono ?_
          rintro e b1 ⟨he, hb⟩
          obtain rfl : e = .returned (.int .i64 0) := he.out
          have HX := Lib.hid (HX.out.on hb)
          have HD := Lib.hid (HD.out.on hb)
          have HV := Lib.hid (HV.out.on hb)
          have Z := Lib.hid (Z.out.on hb)
          have HB := Lib.hid (HB.out.trans (hb.mono HB.out.size))
          clear hb he HRD hc0 hc1 hc2 hc3
          have hc0 := HX.out.c0
          have hc1 := HX.out.c1
          have hc2 := HX.out.c2
          have hc3 := HX.out.c3
          go_wp2_with fail
          refine (HC.out _ _ HV.out).mono ?_
          rintro e b2 ⟨he, hb⟩
          obtain rfl := he.out
          have HX := Lib.hid (HX.out.on hb)
          have HD := Lib.hid (HD.out.on hb)
          have HV := Lib.hid (HV.out.on hb)
          have Z := Lib.hid (Z.out.on hb)
          have HB := Lib.hid (HB.out.trans (hb.mono HB.out.size))
          clear hb he HC hc0 hc1 hc2 hc3
          have hc0 := HX.out.c0
          have hc1 := HX.out.c1
          have hc2 := HX.out.c2
          have hc3 := HX.out.c3
          go_wp2_with fail
          refine (HNw.out _ _ HV.out).mono ?_
          rintro e b3 ⟨he, hb⟩
          obtain rfl : e = .returned (.tuple #[.pointer none, errI 3]) := he.out
          have HX := Lib.hid (HX.out.on hb)
          have HD := Lib.hid (HD.out.on hb)
          have HV := Lib.hid (HV.out.on hb)
          have Z := Lib.hid (Z.out.on hb)
          have HB := Lib.hid (HB.out.trans (hb.mono HB.out.size))
          clear hb he HNw hc0 hc1 hc2 hc3
          have HSy := Lib.hid (HSay.out b3 HB.out)
          clear HSay
          go_wp2_with fail
          refine HSy.out.mono ?_
          rintro e b4 ⟨rfl, hb⟩
          have HB := Lib.hid (HB.out.trans (hb.mono HB.out.size))
          clear hb HSy
          go_wp2
          go_ret
          exact ⟨rfl, HB.out⟩
    · have hk : classA d0 = 1 ∨ classA d0 = 3 := by omega
      rcases hf : finA d0 q0 with _ | _
      · have hgc : gchk d0 = 8 := by unfold gchk; rw [if_neg (by omega), if_neg hev, if_pos (by rw [hem]; exact hf)]
        have HNw := Lib.hid (fun W v (h : DfaAt W W.heap.size v d0) => gnew_bad v d0 W h (by omega))
        rw [hgc] at HNw
        have HSay := Lib.hid (fun W hb => says_gives hg 8 (E := errI 8) (K := 8) rfl rfl W hb)
        rw [hf] at hfin
        have HFin := Lib.hid hfin
        clear g1 hd hst hfin hem h3 hev hgc hf hg
        generalize classA d0 = kc at *
        rcases hk with rfl | rfl
        · as_aux_lemma =>
            go_enter Tryd.func4, Tryd.ntmps4
            go_wp2_with fail
            rw [← HW.out]
            clear HW
            refine (HRD.out _ _ HV.out).mono ?_
            rintro e b1 ⟨he, hb⟩
            obtain rfl : e = .returned (.int .i64 0) := he.out
            have HX := Lib.hid (HX.out.on hb)
            have HD := Lib.hid (HD.out.on hb)
            have HV := Lib.hid (HV.out.on hb)
            have Z := Lib.hid (Z.out.on hb)
            have HB := Lib.hid (HB.out.trans (hb.mono HB.out.size))
            clear hb he HRD hc0 hc1 hc2 hc3
            have hc0 := HX.out.c0
            have hc1 := HX.out.c1
            have hc2 := HX.out.c2
            have hc3 := HX.out.c3
            go_wp2_with fail
            refine (HC.out _ _ HV.out).mono ?_
            rintro e b2 ⟨he, hb⟩
            obtain rfl := he.out
            have HX := Lib.hid (HX.out.on hb)
            have HD := Lib.hid (HD.out.on hb)
            have HV := Lib.hid (HV.out.on hb)
            have Z := Lib.hid (Z.out.on hb)
            have HB := Lib.hid (HB.out.trans (hb.mono HB.out.size))
            clear hb he HC hc0 hc1 hc2 hc3
            have hc0 := HX.out.c0
            have hc1 := HX.out.c1
            have hc2 := HX.out.c2
            have hc3 := HX.out.c3
            obtain ⟨ad, rfl, _, hcell, hym⟩ := HD.out.fins.at_ HFin.out
            rw [HM.out] at hym
            go_wp2_with fail
            refine (HNw.out _ _ HV.out).mono ?_
            rintro e b3 ⟨he, hb⟩
            obtain rfl : e = .returned (.tuple #[.pointer none, errI 8]) := he.out
            have HX := Lib.hid (HX.out.on hb)
            have HD := Lib.hid (HD.out.on hb)
            have HV := Lib.hid (HV.out.on hb)
            have Z := Lib.hid (Z.out.on hb)
            have HB := Lib.hid (HB.out.trans (hb.mono HB.out.size))
            clear hb he HNw hc0 hc1 hc2 hc3
            have HSy := Lib.hid (HSay.out b3 HB.out)
            clear HSay
            go_wp2_with fail
            refine HSy.out.mono ?_
            rintro e b4 ⟨rfl, hb⟩
            have HB := Lib.hid (HB.out.trans (hb.mono HB.out.size))
            clear hb HSy
            go_wp2
            go_ret
            exact ⟨rfl, HB.out⟩
        · as_aux_lemma =>
            go_enter Tryd.func4, Tryd.ntmps4
            go_wp2_with fail
            rw [← HW.out]
            clear HW
            refine (HRD.out _ _ HV.out).mono ?_
            rintro e b1 ⟨he, hb⟩
            obtain rfl : e = .returned (.int .i64 0) := he.out
            have HX := Lib.hid (HX.out.on hb)
            have HD := Lib.hid (HD.out.on hb)
            have HV := Lib.hid (HV.out.on hb)
            have Z := Lib.hid (Z.out.on hb)
            have HB := Lib.hid (HB.out.trans (hb.mono HB.out.size))
            clear hb he HRD hc0 hc1 hc2 hc3
            have hc0 := HX.out.c0
            have hc1 := HX.out.c1
            have hc2 := HX.out.c2
            have hc3 := HX.out.c3
            go_wp2_with fail
            refine (HC.out _ _ HV.out).mono ?_
            rintro e b2 ⟨he, hb⟩
            obtain rfl := he.out
            have HX := Lib.hid (HX.out.on hb)
            have HD := Lib.hid (HD.out.on hb)
            have HV := Lib.hid (HV.out.on hb)
            have Z := Lib.hid (Z.out.on hb)
            have HB := Lib.hid (HB.out.trans (hb.mono HB.out.size))
            clear hb he HC hc0 hc1 hc2 hc3
            have hc0 := HX.out.c0
            have hc1 := HX.out.c1
            have hc2 := HX.out.c2
            have hc3 := HX.out.c3
            obtain ⟨ad, rfl, _, hcell, hym⟩ := HD.out.fins.at_ HFin.out
            rw [HM.out] at hym
            go_wp2_with fail
            refine (HNw.out _ _ HV.out).mono ?_
            rintro e b3 ⟨he, hb⟩
            obtain rfl : e = .returned (.tuple #[.pointer none, errI 8]) := he.out
            have HX := Lib.hid (HX.out.on hb)
            have HD := Lib.hid (HD.out.on hb)
            have HV := Lib.hid (HV.out.on hb)
            have Z := Lib.hid (Z.out.on hb)
            have HB := Lib.hid (HB.out.trans (hb.mono HB.out.size))
            clear hb he HNw hc0 hc1 hc2 hc3
            have HSy := Lib.hid (HSay.out b3 HB.out)
            clear HSay
            go_wp2_with fail
            refine HSy.out.mono ?_
            rintro e b4 ⟨rfl, hb⟩
            have HB := Lib.hid (HB.out.trans (hb.mono HB.out.size))
            clear hb HSy
            go_wp2
            go_ret
            exact ⟨rfl, HB.out⟩
      · have hgg : GGood d0 := gchk_iff.1 (by unfold gchk; rw [if_neg (by omega), if_neg hev, if_neg (by rw [hem, hf]; decide)])
        have HGG := Lib.hid hgg
        have HNw := Lib.hid (fun W v (h : DfaAt W W.heap.size v d0) => gnew_ok v d0 W h hgg)
        have HQ : Hid (q0 = d0.s.toNat) := hst.symm
        rw [hf] at hfin
        have HFin := Lib.hid hfin
        clear g1 hd hst hfin hem h3 hev hf hgg
        generalize classA d0 = kc at *
        rcases hk with rfl | rfl
        · as_aux_lemma =>
            go_enter Tryd.func4, Tryd.ntmps4
            go_wp2_with fail
            rw [← HW.out]
            clear HW
            refine (HRD.out _ _ HV.out).mono ?_
            rintro e b1 ⟨he, hb⟩
            obtain rfl : e = .returned (.int .i64 0) := he.out
            have HX := Lib.hid (HX.out.on hb)
            have HD := Lib.hid (HD.out.on hb)
            have HV := Lib.hid (HV.out.on hb)
            have Z := Lib.hid (Z.out.on hb)
            have HB := Lib.hid (HB.out.trans (hb.mono HB.out.size))
            clear hb he HRD hc0 hc1 hc2 hc3
            have hc0 := HX.out.c0
            have hc1 := HX.out.c1
            have hc2 := HX.out.c2
            have hc3 := HX.out.c3
            go_wp2_with fail
            refine (HC.out _ _ HV.out).mono ?_
            rintro e b2 ⟨he, hb⟩
            obtain rfl := he.out
            have HX := Lib.hid (HX.out.on hb)
            have HD := Lib.hid (HD.out.on hb)
            have HV := Lib.hid (HV.out.on hb)
            have Z := Lib.hid (Z.out.on hb)
            have HB := Lib.hid (HB.out.trans (hb.mono HB.out.size))
            clear hb he HC hc0 hc1 hc2 hc3
            have hc0 := HX.out.c0
            have hc1 := HX.out.c1
            have hc2 := HX.out.c2
            have hc3 := HX.out.c3
            obtain ⟨ad, rfl, _, hcell, hym⟩ := HD.out.fins.at_ HFin.out
            rw [HM.out] at hym
            go_wp2_with fail
            refine (HNw.out _ _ HV.out).mono ?_
            rintro e b3 he
            obtain ⟨g, rfl, hG⟩ := he.out
            have HS : Hid (GateW b2 b3 g d0 (offers d0 (gate0 d0) (z1.take 0)) [eInts (.slice none 0 0) (offers d0 (gate0 d0) (z1.take 0)).out] []) := hG.with_nil
            have hX3 := HX.out.on hG.below
            clear he hG HNw hc0 hc1 hc2 hc3 hcell hym HFin
            have hc1 := hX3.c1
            clear hX3
            go_wp2
            go_loopw [8, 9, 10, 11] (fun x sv sh i wr => ∃ (k q : Nat), k ≤ zl ∧ k ≤ 200 ∧ i = .int .i64 k ∧ sv = .int .i64 q ∧ sh = .bool (offers d0 (gate0 d0) (z1.take k)).shut ∧ Hid ((offers d0 (gate0 d0) (z1.take k)).shut = false → q = (offers d0 (gate0 d0) (z1.take k)).s) ∧ Hid (GateW b2 wr g d0 (offers d0 (gate0 d0) (z1.take k)) [eInts x (offers d0 (gate0 d0) (z1.take k)).out] [])) (fun _ _ _ i _ => 200 - (intOf i).toNat)
            case atStart => exact ⟨0, q0, by omega, by omega, rfl, rfl, rfl, fun _ => HQ.out, HS⟩
            case round =>
              clear HS hc1
              obtain ⟨k, q, hk, hk2, rfl, rfl, rfl, HQk, HS⟩ := hrel
              have HOK := Lib.hid (gok_offers (gok_start HGG.out) (z1.take k))
              have HBw := Lib.hid HS.out.below
              by_cases hlt : k < zl
              · by_cases h200 : k < 200
                · have hkz : k < z1.length := by rw [HL.out]; exact hlt
                  have hZ := Z.out.on HBw.out
                  obtain ⟨ada, rfl, hab, hac, _⟩ := hZ.get (List.getElem?_eq_getElem hkz)
                  have hsa : Small z1[k] := hZ.2 _ (List.getElem_mem hkz)
                  have hT := offers_take d0 (gate0 d0) z1 hkz
                  have HOK2 := Lib.hid (gok_offers (gok_start HGG.out) (z1.take (k + 1)))
                  have e1 : (k : Int) < (zl : Int) := by omega
                  have e2 : (k : Int) < 200 := by omega
                  clear hab hZ
                  generalize z1[k] = a at *
                  clear hkz
                  generalize offers d0 (gate0 d0) (z1.take k) = G at *
                  rw [hT] at HOK2
                  have HT := Lib.hid hT
                  clear hT
                  have HOf : Hid (∀ W es, GateW b2 W g d0 G es [] → Calls Tryd.prog 17 #[.pointer (some ⟨g, 0, none⟩), .int .i64 a] W fun e w' => Hid (e = .returned (.tuple #[.bool (offer d0 G a).2.1, errV (offer d0 G a).1])) ∧ Hid (GateW b2 w' g d0 (offer d0 G a).2.2 es [])) := fun W es h => offer_any b2 W g d0 G es [] a h HGG.out.good HOK.out hsa
                  have hLE := HLE.out.1
                  have h0 := (HX.out.on HBw.out).c0
                  obtain ⟨Ax, cx, rfl, hxc, _⟩ := HS.out.ints List.mem_cons_self (letter_small HGG.out.good HOK.out.word)
                  have hol := HOK.out.len
                  rcases offer_ways d0 G a with ⟨hl, hof⟩ | ⟨hl, hsh, hof⟩ | ⟨hl, hsh, h80, hof⟩ | ⟨hl, hsh, h80, hf, hof⟩ | ⟨hl, hsh, h80, hf, hof⟩
                  · rw [hof] at HOf HOK2 HT
                    obtain ⟨sh, hsh⟩ : ∃ sh, G.shut = sh := ⟨_, rfl⟩
                    have hne : (sh != sh) = false := bne_self_eq_false sh
                    rw [hsh]
                    obtain ⟨nl, hnl⟩ : ∃ nl, G.out.length = nl := ⟨_, rfl⟩
                    rw [hnl] at HS hol
                    rw [hnl]
                    have HNL2 := Lib.hid hnl
                    clear hnl
                    have hway : a < 0 ∨ 0 ≤ a ∧ L0 ≤ a := by
                      by_cases h0 : a < 0
                      · exact .inl h0
                      · refine .inr ⟨by omega, ?_⟩
                        rw [← hLE]
                        exact Int.not_lt.1 fun h1 => by rw [isL_iff.2 ⟨by omega, h1⟩] at hl; cases hl
                    clear hof hl hxc hol hLE
                    rcases hway with hw1 | ⟨hw1, hw2⟩
                    · as_aux_lemma =>
                        have t1 : decide (a < 0) = true := decide_eq_true hw1
                        go_wp2_with fail
                        refine (HOf.out _ _ HS.out).mono ?_
                        rintro e b5 ⟨he, HS⟩
                        obtain rfl : e = .returned (.tuple #[.bool false, errI 1]) := he.out
                        clear he HOf
                        have HBn := Lib.hid (HB.out.trans (HS.out.below.mono HB.out.size))
                        have HSy := Lib.hid (says_gives hg 1 (E := errI 1) (K := 1) rfl rfl b5 HBn.out)
                        clear HBn
                        go_wp2_with fail
                        refine HSy.out.mono ?_
                        rintro e b6 ⟨rfl, hb⟩
                        have HS := Lib.hid (HS.out.on hb)
                        clear hb HSy
                        have HSh := Lib.hid (shut_any _ _ _ _ _ _ _ HS.out)
                        rw [hsh] at HSh
                        go_wp2_with fail
                        refine HSh.out.mono ?_
                        rintro e b7 ⟨rfl, rfl⟩
                        clear HSh
                        have HO := Lib.hid (gout_len (G := G) HNL2.out HS.out HGG.out.good HOK2.out)
                        go_wp2_with fail
                        refine HO.out.mono ?_
                        rintro e b8 ⟨Ao, co, rfl, HI, hb⟩
                        have HS := Lib.hid (HS.out.on hb)
                        clear hb HO
                        have HIn := Lib.hid (ints_len (G := G) HNL2.out HS.out HGG.out.good HOK2.out co HI.out)
                        clear HI
                        go_wp2_with fail
                        refine HIn.out.mono ?_
                        rintro e b9 ⟨rfl, hb⟩
                        have HS := Lib.hid (HS.out.on hb)
                        clear hb HIn
                        go_wp2
                        go_roundw
                        case rel => exact ⟨k + 1, q, by omega, by omega, by go_num, rfl, by rw [HT.out]; rw [hsh], by unfold Hid; rw [HT.out]; exact (HQk.out), by unfold Hid; rw [HT.out]; exact HS.out⟩
                        case measure => simp [intOf]; omega
                    · as_aux_lemma =>
                        have t1 : decide (a < 0) = false := decide_eq_false (by omega)
                        have t2 : decide (L0 ≤ a) = true := decide_eq_true hw2
                        go_wp2_with fail
                        refine (HOf.out _ _ HS.out).mono ?_
                        rintro e b5 ⟨he, HS⟩
                        obtain rfl : e = .returned (.tuple #[.bool false, errI 1]) := he.out
                        clear he HOf
                        have HBn := Lib.hid (HB.out.trans (HS.out.below.mono HB.out.size))
                        have HSy := Lib.hid (says_gives hg 1 (E := errI 1) (K := 1) rfl rfl b5 HBn.out)
                        clear HBn
                        go_wp2_with fail
                        refine HSy.out.mono ?_
                        rintro e b6 ⟨rfl, hb⟩
                        have HS := Lib.hid (HS.out.on hb)
                        clear hb HSy
                        have HSh := Lib.hid (shut_any _ _ _ _ _ _ _ HS.out)
                        rw [hsh] at HSh
                        go_wp2_with fail
                        refine HSh.out.mono ?_
                        rintro e b7 ⟨rfl, rfl⟩
                        clear HSh
                        have HO := Lib.hid (gout_len (G := G) HNL2.out HS.out HGG.out.good HOK2.out)
                        go_wp2_with fail
                        refine HO.out.mono ?_
                        rintro e b8 ⟨Ao, co, rfl, HI, hb⟩
                        have HS := Lib.hid (HS.out.on hb)
                        clear hb HO
                        have HIn := Lib.hid (ints_len (G := G) HNL2.out HS.out HGG.out.good HOK2.out co HI.out)
                        clear HI
                        go_wp2_with fail
                        refine HIn.out.mono ?_
                        rintro e b9 ⟨rfl, hb⟩
                        have HS := Lib.hid (HS.out.on hb)
                        clear hb HIn
                        go_wp2
                        go_roundw
                        case rel => exact ⟨k + 1, q, by omega, by omega, by go_num, rfl, by rw [HT.out]; rw [hsh], by unfold Hid; rw [HT.out]; exact (HQk.out), by unfold Hid; rw [HT.out]; exact HS.out⟩
                        case measure => simp [intOf]; omega
                  · as_aux_lemma =>
                      rw [hof] at HOf HOK2 HT
                      obtain ⟨hw1, hw2⟩ := isL_iff.1 hl
                      rw [hLE] at hw2
                      have t1 : decide (a < 0) = false := decide_eq_false (by omega)
                      have t2 : decide (L0 ≤ a) = false := decide_eq_false (by omega)
                      rw [hsh]
                      obtain ⟨nl, hnl⟩ : ∃ nl, G.out.length = nl := ⟨_, rfl⟩
                      rw [hnl] at HS hol
                      rw [hnl]
                      have HNL2 := Lib.hid hnl
                      clear hnl
                      clear hof hl hxc hol hLE
                      go_wp2_with fail
                      refine (HOf.out _ _ HS.out).mono ?_
                      rintro e b5 ⟨he, HS⟩
                      obtain rfl : e = .returned (.tuple #[.bool false, .nilIface]) := he.out
                      clear he HOf
                      have HBn := Lib.hid (HB.out.trans (HS.out.below.mono HB.out.size))
                      have HSy := Lib.hid (says_gives hg 0 (E := .nilIface) (K := 0) rfl rfl b5 HBn.out)
                      clear HBn
                      go_wp2_with fail
                      refine HSy.out.mono ?_
                      rintro e b6 ⟨rfl, hb⟩
                      have HS := Lib.hid (HS.out.on hb)
                      clear hb HSy
                      have HSh := Lib.hid (shut_any _ _ _ _ _ _ _ HS.out)
                      rw [hsh] at HSh
                      go_wp2_with fail
                      refine HSh.out.mono ?_
                      rintro e b7 ⟨rfl, rfl⟩
                      clear HSh
                      have HO := Lib.hid (gout_len (G := G) HNL2.out HS.out HGG.out.good HOK2.out)
                      go_wp2_with fail
                      refine HO.out.mono ?_
                      rintro e b8 ⟨Ao, co, rfl, HI, hb⟩
                      have HS := Lib.hid (HS.out.on hb)
                      clear hb HO
                      have HIn := Lib.hid (ints_len (G := G) HNL2.out HS.out HGG.out.good HOK2.out co HI.out)
                      clear HI
                      go_wp2_with fail
                      refine HIn.out.mono ?_
                      rintro e b9 ⟨rfl, hb⟩
                      have HS := Lib.hid (HS.out.on hb)
                      clear hb HIn
                      go_wp2
                      go_roundw
                      case rel => exact ⟨k + 1, q, by omega, by omega, by go_num, rfl, by rw [HT.out]; rw [hsh], by unfold Hid; rw [HT.out]; exact (HQk.out), by unfold Hid; rw [HT.out]; exact HS.out⟩
                      case measure => simp [intOf]; omega
                  · as_aux_lemma =>
                      rw [hof] at HOf HOK2 HT
                      obtain ⟨hw1, hw2⟩ := isL_iff.1 hl
                      rw [hLE] at hw2
                      have t1 : decide (a < 0) = false := decide_eq_false (by omega)
                      have t2 : decide (L0 ≤ a) = false := decide_eq_false (by omega)
                      rw [hsh]
                      obtain ⟨nl, hnl⟩ : ∃ nl, G.out.length = nl := ⟨_, rfl⟩
                      rw [hnl] at HS hol h80
                      rw [hnl]
                      have HNL2 := Lib.hid hnl
                      clear hnl
                      have t3 : (80 : Int) ≤ (nl : Int) := by omega
                      clear hof hl hxc hol hLE
                      go_wp2_with fail
                      refine (HOf.out _ _ HS.out).mono ?_
                      rintro e b5 ⟨he, HS⟩
                      obtain rfl : e = .returned (.tuple #[.bool false, errI 4]) := he.out
                      clear he HOf
                      have HBn := Lib.hid (HB.out.trans (HS.out.below.mono HB.out.size))
                      have HSy := Lib.hid (says_gives hg 4 (E := errI 4) (K := 4) rfl rfl b5 HBn.out)
                      clear HBn
                      go_wp2_with fail
                      refine HSy.out.mono ?_
                      rintro e b6 ⟨rfl, hb⟩
                      have HS := Lib.hid (HS.out.on hb)
                      clear hb HSy
                      have HSh := Lib.hid (shut_any _ _ _ _ _ _ _ HS.out)
                      rw [hsh] at HSh
                      go_wp2_with fail
                      refine HSh.out.mono ?_
                      rintro e b7 ⟨rfl, rfl⟩
                      clear HSh
                      have HO := Lib.hid (gout_len (G := G) HNL2.out HS.out HGG.out.good HOK2.out)
                      go_wp2_with fail
                      refine HO.out.mono ?_
                      rintro e b8 ⟨Ao, co, rfl, HI, hb⟩
                      have HS := Lib.hid (HS.out.on hb)
                      clear hb HO
                      have HIn := Lib.hid (ints_len (G := G) HNL2.out HS.out HGG.out.good HOK2.out co HI.out)
                      clear HI
                      go_wp2_with fail
                      refine HIn.out.mono ?_
                      rintro e b9 ⟨rfl, hb⟩
                      have HS := Lib.hid (HS.out.on hb)
                      clear hb HIn
                      go_wp2
                      go_roundw
                      case rel => exact ⟨k + 1, q, by omega, by omega, by go_num, rfl, by rw [HT.out]; rw [hsh], by unfold Hid; rw [HT.out]; exact (HQk.out), by unfold Hid; rw [HT.out]; exact HS.out⟩
                      case measure => simp [intOf]; omega
                  · as_aux_lemma =>
                      rw [hof] at HOf HOK2 HT
                      obtain ⟨hw1, hw2⟩ := isL_iff.1 hl
                      rw [hLE] at hw2
                      have t1 : decide (a < 0) = false := decide_eq_false (by omega)
                      have t2 : decide (L0 ≤ a) = false := decide_eq_false (by omega)
                      rw [hsh]
                      obtain ⟨nl, hnl⟩ : ∃ nl, G.out.length = nl := ⟨_, rfl⟩
                      rw [hnl] at HS hol h80
                      rw [hnl]
                      have HNL2 := Lib.hid hnl
                      clear hnl
                      have t3 : (nl : Int) < 80 := by omega
                      have hqs : q = G.s := HQk.out hsh
                      have hlt2 : G.s < d0.next.length := by rw [HOK.out.st]; exact HGG.out.good.run_lt HOK.out.word HGG.out.good.s_lt
                      obtain ⟨a2, ha2⟩ : ∃ a2 : Nat, a = (a2 : Int) := ⟨a.toNat, by omega⟩
                      subst ha2
                      skip
                      obtain ⟨r, hr1, _, hr2, hr3, hr4⟩ := HGG.out.good.at_ hlt2 (a := a2) (by rw [hLE]; exact hw2)
                      have hD := HD.out.on HBw.out
                      have hf2 := HGG.out.good.fin_at hr4
                      rw [Int.toNat_natCast] at hf HOf HOK2 HT
                      rw [hf] at hf2
                      obtain ⟨adn, Ar, cr, rfl, hnb, hrc, hrl, hrl2, hri⟩ := hD.rows _ _ hr1
                      obtain ⟨adr, rfl, _, hrcell, hrlt⟩ := hri.get hr3
                      obtain ⟨adf, e9, _, hfcell, hflt⟩ := hD.fins.at_ hf2
                      obtain rfl := Option.some.inj e9
                      rw [HM.out] at hflt
                      rw [HN.out] at hlt2
                      subst hqs
                      have h2 := (HX.out.on HBw.out).c2
                      have h3 := (HX.out.on HBw.out).c3
                      obtain ⟨rl, hrlen⟩ : ∃ rl, r.length = rl := ⟨_, rfl⟩
                      rw [hrlen] at hrc hrl hrlt
                      generalize hy : Df.step d0 G.s a2 = y at *
                      clear e9 hof hl hol hLE hD hri hr1 hr2 hr3 hf2 hnb hrlen hy
                      obtain ⟨nv, fv, pv, rs, hGV⟩ := HS.out
                      have HGV := Lib.hid hGV
                      have HFr := Lib.hid hGV.front
                      clear hf hGV hsh
                      go_wp2_with (at_builtin; refine own_int rfl _ _ rfl rfl HFr.out rfl (by rw [HNL2.out]; omega) ?_)
                      intro g2 cap w4 ho
                      obtain ⟨n2, hn2⟩ : ∃ n2, G.out.length + 1 = n2 := ⟨_, rfl⟩
                      rw [hn2] at ho ⊢
                      have HS : Hid (GateW b2 w4 g d0 G [eInts (.slice (some ⟨g2, 0, none⟩) n2 cap) (G.out ++ [(a2 : Int)])] []) := ⟨_, _, _, _, HGV.out.tail.swap (by rw [List.append_nil]; exact ho)⟩
                      replace HNL2 : Hid ((G.out ++ [(a2 : Int)]).length = n2) := by unfold Hid; rw [List.length_append]; exact hn2
                      clear HGV HFr ho hn2
                      go_wp2_with fail
                      refine (HOf.out _ _ HS.out).mono ?_
                      rintro e b5 ⟨he, HS⟩
                      obtain rfl : e = .returned (.tuple #[.bool true, .nilIface]) := he.out
                      clear he HOf
                      have HBn := Lib.hid (HB.out.trans (HS.out.below.mono HB.out.size))
                      have HSy := Lib.hid (says_gives hg 0 (E := .nilIface) (K := 0) rfl rfl b5 HBn.out)
                      clear HBn
                      go_wp2_with fail
                      refine HSy.out.mono ?_
                      rintro e b6 ⟨rfl, hb⟩
                      have HS := Lib.hid (HS.out.on hb)
                      clear hb HSy
                      have HSh := Lib.hid (shut_any _ _ _ _ _ _ _ HS.out)
                      rw [show (⟨y, G.out ++ [(a2 : Int)], false⟩ : Gt).shut = false from rfl] at HSh
                      go_wp2_with fail
                      refine HSh.out.mono ?_
                      rintro e b7 ⟨rfl, rfl⟩
                      clear HSh
                      have HO := Lib.hid (gout_len (G := ⟨y, G.out ++ [(a2 : Int)], false⟩) HNL2.out HS.out HGG.out.good HOK2.out)
                      go_wp2_with fail
                      refine HO.out.mono ?_
                      rintro e b8 ⟨Ao, co, rfl, HI, hb⟩
                      have HS := Lib.hid (HS.out.on hb)
                      clear hb HO
                      have HIn := Lib.hid (ints_len (G := ⟨y, G.out ++ [(a2 : Int)], false⟩) HNL2.out HS.out HGG.out.good HOK2.out co HI.out)
                      clear HI
                      go_wp2_with fail
                      refine HIn.out.mono ?_
                      rintro e b9 ⟨rfl, hb⟩
                      have HS := Lib.hid (HS.out.on hb)
                      clear hb HIn
                      go_wp2
                      go_roundw
                      case rel => exact ⟨k + 1, y, by omega, by omega, by go_num, rfl, by rw [HT.out], by unfold Hid; rw [HT.out]; exact (fun _ => rfl), by unfold Hid; rw [HT.out]; exact HS.out⟩
                      case measure => simp [intOf]; omega
                  · as_aux_lemma =>
                      rw [hof] at HOf HOK2 HT
                      obtain ⟨hw1, hw2⟩ := isL_iff.1 hl
                      rw [hLE] at hw2
                      have t1 : decide (a < 0) = false := decide_eq_false (by omega)
                      have t2 : decide (L0 ≤ a) = false := decide_eq_false (by omega)
                      rw [hsh]
                      obtain ⟨nl, hnl⟩ : ∃ nl, G.out.length = nl := ⟨_, rfl⟩
                      rw [hnl] at HS hol h80
                      rw [hnl]
                      have HNL2 := Lib.hid hnl
                      clear hnl
                      have t3 : (nl : Int) < 80 := by omega
                      have hqs : q = G.s := HQk.out hsh
                      have hlt2 : G.s < d0.next.length := by rw [HOK.out.st]; exact HGG.out.good.run_lt HOK.out.word HGG.out.good.s_lt
                      obtain ⟨a2, ha2⟩ : ∃ a2 : Nat, a = (a2 : Int) := ⟨a.toNat, by omega⟩
                      subst ha2
                      skip
                      obtain ⟨r, hr1, _, hr2, hr3, hr4⟩ := HGG.out.good.at_ hlt2 (a := a2) (by rw [hLE]; exact hw2)
                      have hD := HD.out.on HBw.out
                      have hf2 := HGG.out.good.fin_at hr4
                      rw [Int.toNat_natCast] at hf
                      rw [hf] at hf2
                      obtain ⟨adn, Ar, cr, rfl, hnb, hrc, hrl, hrl2, hri⟩ := hD.rows _ _ hr1
                      obtain ⟨adr, rfl, _, hrcell, hrlt⟩ := hri.get hr3
                      obtain ⟨adf, e9, _, hfcell, hflt⟩ := hD.fins.at_ hf2
                      obtain rfl := Option.some.inj e9
                      rw [HM.out] at hflt
                      rw [HN.out] at hlt2
                      subst hqs
                      have h2 := (HX.out.on HBw.out).c2
                      have h3 := (HX.out.on HBw.out).c3
                      obtain ⟨rl, hrlen⟩ : ∃ rl, r.length = rl := ⟨_, rfl⟩
                      rw [hrlen] at hrc hrl hrlt
                      generalize hy : Df.step d0 G.s a2 = y at *
                      clear e9 hof hl hol hLE hD hri hr1 hr2 hr3 hf2 hnb hrlen hy
                      clear hxc hf hsh
                      go_wp2_with fail
                      refine (HOf.out _ _ HS.out).mono ?_
                      rintro e b5 ⟨he, HS⟩
                      obtain rfl : e = .returned (.tuple #[.bool false, .nilIface]) := he.out
                      clear he HOf
                      have HBn := Lib.hid (HB.out.trans (HS.out.below.mono HB.out.size))
                      have HSy := Lib.hid (says_gives hg 0 (E := .nilIface) (K := 0) rfl rfl b5 HBn.out)
                      clear HBn
                      go_wp2_with fail
                      refine HSy.out.mono ?_
                      rintro e b6 ⟨rfl, hb⟩
                      have HS := Lib.hid (HS.out.on hb)
                      clear hb HSy
                      have HSh := Lib.hid (shut_any _ _ _ _ _ _ _ HS.out)
                      rw [show (⟨G.s, G.out, true⟩ : Gt).shut = true from rfl] at HSh
                      go_wp2_with fail
                      refine HSh.out.mono ?_
                      rintro e b7 ⟨rfl, rfl⟩
                      clear HSh
                      have HO := Lib.hid (gout_len (G := ⟨G.s, G.out, true⟩) HNL2.out HS.out HGG.out.good HOK2.out)
                      go_wp2_with fail
                      refine HO.out.mono ?_
                      rintro e b8 ⟨Ao, co, rfl, HI, hb⟩
                      have HS := Lib.hid (HS.out.on hb)
                      clear hb HO
                      have HIn := Lib.hid (ints_len (G := ⟨G.s, G.out, true⟩) HNL2.out HS.out HGG.out.good HOK2.out co HI.out)
                      clear HI
                      go_wp2_with fail
                      refine HIn.out.mono ?_
                      rintro e b9 ⟨rfl, hb⟩
                      have HS := Lib.hid (HS.out.on hb)
                      clear hb HIn
                      go_wp2
                      go_roundw
                      case rel => exact ⟨k + 1, y, by omega, by omega, by go_num, rfl, by rw [HT.out], by unfold Hid; rw [HT.out]; exact (fun (h : true = false) => Bool.noConfusion h), by unfold Hid; rw [HT.out]; exact HS.out⟩
                      case measure => simp [intOf]; omega
                · obtain rfl : k = 200 := by omega
                  have e1 : ((200 : Nat) : Int) < (zl : Int) := by omega
                  have HE := Lib.hid (HB.out.trans (HBw.out.mono HB.out.size))
                  clear HS HBw
                  go_wp2
                  go_ret
                  exact ⟨rfl, HE.out⟩
              · obtain rfl : k = zl := by omega
                have HE := Lib.hid (HB.out.trans (HBw.out.mono HB.out.size))
                clear HS HBw
                go_wp2
                go_ret
                exact ⟨rfl, HE.out⟩
        · as_aux_lemma =>
            go_enter Tryd.func4, Tryd.ntmps4
            go_wp2_with fail
            rw [← HW.out]
            clear HW
            refine (HRD.out _ _ HV.out).mono ?_
            rintro e b1 ⟨he, hb⟩
            obtain rfl : e = .returned (.int .i64 0) := he.out
            have HX := Lib.hid (HX.out.on hb)
            have HD := Lib.hid (HD.out.on hb)
            have HV := Lib.hid (HV.out.on hb)
            have Z := Lib.hid (Z.out.on hb)
            have HB := Lib.hid (HB.out.trans (hb.mono HB.out.size))
            clear hb he HRD hc0 hc1 hc2 hc3
            have hc0 := HX.out.c0
            have hc1 := HX.out.c1
            have hc2 := HX.out.c2
            have hc3 := HX.out.c3
            go_wp2_with fail
            refine (HC.out _ _ HV.out).mono ?_
            rintro e b2 ⟨he, hb⟩
            obtain rfl := he.out
            have HX := Lib.hid (HX.out.on hb)
            have HD := Lib.hid (HD.out.on hb)
            have HV := Lib.hid (HV.out.on hb)
            have Z := Lib.hid (Z.out.on hb)
            have HB := Lib.hid (HB.out.trans (hb.mono HB.out.size))
            clear hb he HC hc0 hc1 hc2 hc3
            have hc0 := HX.out.c0
            have hc1 := HX.out.c1
            have hc2 := HX.out.c2
            have hc3 := HX.out.c3
            obtain ⟨ad, rfl, _, hcell, hym⟩ := HD.out.fins.at_ HFin.out
            rw [HM.out] at hym
            go_wp2_with fail
            refine (HNw.out _ _ HV.out).mono ?_
            rintro e b3 he
            obtain ⟨g, rfl, hG⟩ := he.out
            have HS : Hid (GateW b2 b3 g d0 (offers d0 (gate0 d0) (z1.take 0)) [eInts (.slice none 0 0) (offers d0 (gate0 d0) (z1.take 0)).out] []) := hG.with_nil
            have hX3 := HX.out.on hG.below
            clear he hG HNw hc0 hc1 hc2 hc3 hcell hym HFin
            have hc1 := hX3.c1
            clear hX3
            go_wp2
            go_loopw [8, 9, 10, 11] (fun x sv sh i wr => ∃ (k q : Nat), k ≤ zl ∧ k ≤ 200 ∧ i = .int .i64 k ∧ sv = .int .i64 q ∧ sh = .bool (offers d0 (gate0 d0) (z1.take k)).shut ∧ Hid ((offers d0 (gate0 d0) (z1.take k)).shut = false → q = (offers d0 (gate0 d0) (z1.take k)).s) ∧ Hid (GateW b2 wr g d0 (offers d0 (gate0 d0) (z1.take k)) [eInts x (offers d0 (gate0 d0) (z1.take k)).out] [])) (fun _ _ _ i _ => 200 - (intOf i).toNat)
            case atStart => exact ⟨0, q0, by omega, by omega, rfl, rfl, rfl, fun _ => HQ.out, HS⟩
            case round =>
              clear HS hc1
              obtain ⟨k, q, hk, hk2, rfl, rfl, rfl, HQk, HS⟩ := hrel
              have HOK := Lib.hid (gok_offers (gok_start HGG.out) (z1.take k))
              have HBw := Lib.hid HS.out.below
              by_cases hlt : k < zl
              · by_cases h200 : k < 200
                · have hkz : k < z1.length := by rw [HL.out]; exact hlt
                  have hZ := Z.out.on HBw.out
                  obtain ⟨ada, rfl, hab, hac, _⟩ := hZ.get (List.getElem?_eq_getElem hkz)
                  have hsa : Small z1[k] := hZ.2 _ (List.getElem_mem hkz)
                  have hT := offers_take d0 (gate0 d0) z1 hkz
                  have HOK2 := Lib.hid (gok_offers (gok_start HGG.out) (z1.take (k + 1)))
                  have e1 : (k : Int) < (zl : Int) := by omega
                  have e2 : (k : Int) < 200 := by omega
                  clear hab hZ
                  generalize z1[k] = a at *
                  clear hkz
                  generalize offers d0 (gate0 d0) (z1.take k) = G at *
                  rw [hT] at HOK2
                  have HT := Lib.hid hT
                  clear hT
                  have HOf : Hid (∀ W es, GateW b2 W g d0 G es [] → Calls Tryd.prog 17 #[.pointer (some ⟨g, 0, none⟩), .int .i64 a] W fun e w' => Hid (e = .returned (.tuple #[.bool (offer d0 G a).2.1, errV (offer d0 G a).1])) ∧ Hid (GateW b2 w' g d0 (offer d0 G a).2.2 es [])) := fun W es h => offer_any b2 W g d0 G es [] a h HGG.out.good HOK.out hsa
                  have hLE := HLE.out.1
                  have h0 := (HX.out.on HBw.out).c0
                  obtain ⟨Ax, cx, rfl, hxc, _⟩ := HS.out.ints List.mem_cons_self (letter_small HGG.out.good HOK.out.word)
                  have hol := HOK.out.len
                  rcases offer_ways d0 G a with ⟨hl, hof⟩ | ⟨hl, hsh, hof⟩ | ⟨hl, hsh, h80, hof⟩ | ⟨hl, hsh, h80, hf, hof⟩ | ⟨hl, hsh, h80, hf, hof⟩
                  · rw [hof] at HOf HOK2 HT
                    obtain ⟨sh, hsh⟩ : ∃ sh, G.shut = sh := ⟨_, rfl⟩
                    have hne : (sh != sh) = false := bne_self_eq_false sh
                    rw [hsh]
                    obtain ⟨nl, hnl⟩ : ∃ nl, G.out.length = nl := ⟨_, rfl⟩
                    rw [hnl] at HS hol
                    rw [hnl]
                    have HNL2 := Lib.hid hnl
                    clear hnl
                    have hway : a < 0 ∨ 0 ≤ a ∧ L0 ≤ a := by
                      by_cases h0 : a < 0
                      · exact .inl h0
                      · refine .inr ⟨by omega, ?_⟩
                        rw [← hLE]
                        exact Int.not_lt.1 fun h1 => by rw [isL_iff.2 ⟨by omega, h1⟩] at hl; cases hl
                    clear hof hl hxc hol hLE
                    rcases hway with hw1 | ⟨hw1, hw2⟩
                    · as_aux_lemma =>
                        have t1 : decide (a < 0) = true := decide_eq_true hw1
                        go_wp2_with fail
                        refine (HOf.out _ _ HS.out).mono ?_
                        rintro e b5 ⟨he, HS⟩
                        obtain rfl : e = .returned (.tuple #[.bool false, errI 1]) := he.out
                        clear he HOf
                        have HBn := Lib.hid (HB.out.trans (HS.out.below.mono HB.out.size))
                        have HSy := Lib.hid (says_gives hg 1 (E := errI 1) (K := 1) rfl rfl b5 HBn.out)
                        clear HBn
                        go_wp2_with fail
                        refine HSy.out.mono ?_
                        rintro e b6 ⟨rfl, hb⟩
                        have HS := Lib.hid (HS.out.on hb)
                        clear hb HSy
                        have HSh := Lib.hid (shut_any _ _ _ _ _ _ _ HS.out)
                        rw [hsh] at HSh
                        go_wp2_with fail
                        refine HSh.out.mono ?_
                        rintro e b7 ⟨rfl, rfl⟩
                        clear HSh
                        have HO := Lib.hid (gout_len (G := G) HNL2.out HS.out HGG.out.good HOK2.out)
                        go_wp2_with fail
                        refine HO.out.mono ?_
                        rintro e b8 ⟨Ao, co, rfl, HI, hb⟩
                        have HS := Lib.hid (HS.out.on hb)
                        clear hb HO
                        have HIn := Lib.hid (ints_len (G := G) HNL2.out HS.out HGG.out.good HOK2.out co HI.out)
                        clear HI
                        go_wp2_with fail
                        refine HIn.out.mono ?_
                        rintro e b9 ⟨rfl, hb⟩
                        have HS := Lib.hid (HS.out.on hb)
                        clear hb HIn
                        go_wp2
                        go_roundw
                        case rel => exact ⟨k + 1, q, by omega, by omega, by go_num, rfl, by rw [HT.out]; rw [hsh], by unfold Hid; rw [HT.out]; exact (HQk.out), by unfold Hid; rw [HT.out]; exact HS.out⟩
                        case measure => simp [intOf]; omega
                    · as_aux_lemma =>
                        have t1 : decide (a < 0) = false := decide_eq_false (by omega)
                        have t2 : decide (L0 ≤ a) = true := decide_eq_true hw2
                        go_wp2_with fail
                        refine (HOf.out _ _ HS.out).mono ?_
                        rintro e b5 ⟨he, HS⟩
                        obtain rfl : e = .returned (.tuple #[.bool false, errI 1]) := he.out
                        clear he HOf
                        have HBn := Lib.hid (HB.out.trans (HS.out.below.mono HB.out.size))
                        have HSy := Lib.hid (says_gives hg 1 (E := errI 1) (K := 1) rfl rfl b5 HBn.out)
                        clear HBn
                        go_wp2_with fail
                        refine HSy.out.mono ?_
                        rintro e b6 ⟨rfl, hb⟩
                        have HS := Lib.hid (HS.out.on hb)
                        clear hb HSy
                        have HSh := Lib.hid (shut_any _ _ _ _ _ _ _ HS.out)
                        rw [hsh] at HSh
                        go_wp2_with fail
                        refine HSh.out.mono ?_
                        rintro e b7 ⟨rfl, rfl⟩
                        clear HSh
                        have HO := Lib.hid (gout_len (G := G) HNL2.out HS.out HGG.out.good HOK2.out)
                        go_wp2_with fail
                        refine HO.out.mono ?_
                        rintro e b8 ⟨Ao, co, rfl, HI, hb⟩
                        have HS := Lib.hid (HS.out.on hb)
                        clear hb HO
                        have HIn := Lib.hid (ints_len (G := G) HNL2.out HS.out HGG.out.good HOK2.out co HI.out)
                        clear HI
                        go_wp2_with fail
                        refine HIn.out.mono ?_
                        rintro e b9 ⟨rfl, hb⟩
                        have HS := Lib.hid (HS.out.on hb)
                        clear hb HIn
                        go_wp2
                        go_roundw
                        case rel => exact ⟨k + 1, q, by omega, by omega, by go_num, rfl, by rw [HT.out]; rw [hsh], by unfold Hid; rw [HT.out]; exact (HQk.out), by unfold Hid; rw [HT.out]; exact HS.out⟩
                        case measure => simp [intOf]; omega
                  · as_aux_lemma =>
                      rw [hof] at HOf HOK2 HT
                      obtain ⟨hw1, hw2⟩ := isL_iff.1 hl
                      rw [hLE] at hw2
                      have t1 : decide (a < 0) = false := decide_eq_false (by omega)
                      have t2 : decide (L0 ≤ a) = false := decide_eq_false (by omega)
                      rw [hsh]
                      obtain ⟨nl, hnl⟩ : ∃ nl, G.out.length = nl := ⟨_, rfl⟩
                      rw [hnl] at HS hol
                      rw [hnl]
                      have HNL2 := Lib.hid hnl
                      clear hnl
                      clear hof hl hxc hol hLE
                      go_wp2_with fail
                      refine (HOf.out _ _ HS.out).mono ?_
                      rintro e b5 ⟨he, HS⟩
                      obtain rfl : e = .returned (.tuple #[.bool false, .nilIface]) := he.out
                      clear he HOf
                      have HBn := Lib.hid (HB.out.trans (HS.out.below.mono HB.out.size))
                      have HSy := Lib.hid (says_gives hg 0 (E := .nilIface) (K := 0) rfl rfl b5 HBn.out)
                      clear HBn
                      go_wp2_with fail
                      refine HSy.out.mono ?_
                      rintro e b6 ⟨rfl, hb⟩
                      have HS := Lib.hid (HS.out.on hb)
                      clear hb HSy
                      have HSh := Lib.hid (shut_any _ _ _ _ _ _ _ HS.out)
                      rw [hsh] at HSh
                      go_wp2_with fail
                      refine HSh.out.mono ?_
                      rintro e b7 ⟨rfl, rfl⟩
                      clear HSh
                      have HO := Lib.hid (gout_len (G := G) HNL2.out HS.out HGG.out.good HOK2.out)
                      go_wp2_with fail
                      refine HO.out.mono ?_
                      rintro e b8 ⟨Ao, co, rfl, HI, hb⟩
                      have HS := Lib.hid (HS.out.on hb)
                      clear hb HO
                      have HIn := Lib.hid (ints_len (G := G) HNL2.out HS.out HGG.out.good HOK2.out co HI.out)
                      clear HI
                      go_wp2_with fail
                      refine HIn.out.mono ?_
                      rintro e b9 ⟨rfl, hb⟩
                      have HS := Lib.hid (HS.out.on hb)
                      clear hb HIn
                      go_wp2
                      go_roundw
                      case rel => exact ⟨k + 1, q, by omega, by omega, by go_num, rfl, by rw [HT.out]; rw [hsh], by unfold Hid; rw [HT.out]; exact (HQk.out), by unfold Hid; rw [HT.out]; exact HS.out⟩
                      case measure => simp [intOf]; omega
                  · as_aux_lemma =>
                      rw [hof] at HOf HOK2 HT
                      obtain ⟨hw1, hw2⟩ := isL_iff.1 hl
                      rw [hLE] at hw2
                      have t1 : decide (a < 0) = false := decide_eq_false (by omega)
                      have t2 : decide (L0 ≤ a) = false := decide_eq_false (by omega)
                      rw [hsh]
                      obtain ⟨nl, hnl⟩ : ∃ nl, G.out.length = nl := ⟨_, rfl⟩
                      rw [hnl] at HS hol h80
                      rw [hnl]
                      have HNL2 := Lib.hid hnl
                      clear hnl
                      have t3 : (80 : Int) ≤ (nl : Int) := by omega
                      clear hof hl hxc hol hLE
                      go_wp2_with fail
                      refine (HOf.out _ _ HS.out).mono ?_
                      rintro e b5 ⟨he, HS⟩
                      obtain rfl : e = .returned (.tuple #[.bool false, errI 4]) := he.out
                      clear he HOf
                      have HBn := Lib.hid (HB.out.trans (HS.out.below.mono HB.out.size))
                      have HSy := Lib.hid (says_gives hg 4 (E := errI 4) (K := 4) rfl rfl b5 HBn.out)
                      clear HBn
                      go_wp2_with fail
                      refine HSy.out.mono ?_
                      rintro e b6 ⟨rfl, hb⟩
                      have HS := Lib.hid (HS.out.on hb)
                      clear hb HSy
                      have HSh := Lib.hid (shut_any _ _ _ _ _ _ _ HS.out)
                      rw [hsh] at HSh
                      go_wp2_with fail
                      refine HSh.out.mono ?_
                      rintro e b7 ⟨rfl, rfl⟩
                      clear HSh
                      have HO := Lib.hid (gout_len (G := G) HNL2.out HS.out HGG.out.good HOK2.out)
                      go_wp2_with fail
                      refine HO.out.mono ?_
                      rintro e b8 ⟨Ao, co, rfl, HI, hb⟩
                      have HS := Lib.hid (HS.out.on hb)
                      clear hb HO
                      have HIn := Lib.hid (ints_len (G := G) HNL2.out HS.out HGG.out.good HOK2.out co HI.out)
                      clear HI
                      go_wp2_with fail
                      refine HIn.out.mono ?_
                      rintro e b9 ⟨rfl, hb⟩
                      have HS := Lib.hid (HS.out.on hb)
                      clear hb HIn
                      go_wp2
                      go_roundw
                      case rel => exact ⟨k + 1, q, by omega, by omega, by go_num, rfl, by rw [HT.out]; rw [hsh], by unfold Hid; rw [HT.out]; exact (HQk.out), by unfold Hid; rw [HT.out]; exact HS.out⟩
                      case measure => simp [intOf]; omega
                  · as_aux_lemma =>
                      rw [hof] at HOf HOK2 HT
                      obtain ⟨hw1, hw2⟩ := isL_iff.1 hl
                      rw [hLE] at hw2
                      have t1 : decide (a < 0) = false := decide_eq_false (by omega)
                      have t2 : decide (L0 ≤ a) = false := decide_eq_false (by omega)
                      rw [hsh]
                      obtain ⟨nl, hnl⟩ : ∃ nl, G.out.length = nl := ⟨_, rfl⟩
                      rw [hnl] at HS hol h80
                      rw [hnl]
                      have HNL2 := Lib.hid hnl
                      clear hnl
                      have t3 : (nl : Int) < 80 := by omega
                      have hqs : q = G.s := HQk.out hsh
                      have hlt2 : G.s < d0.next.length := by rw [HOK.out.st]; exact HGG.out.good.run_lt HOK.out.word HGG.out.good.s_lt
                      obtain ⟨a2, ha2⟩ : ∃ a2 : Nat, a = (a2 : Int) := ⟨a.toNat, by omega⟩
                      subst ha2
                      skip
                      obtain ⟨r, hr1, _, hr2, hr3, hr4⟩ := HGG.out.good.at_ hlt2 (a := a2) (by rw [hLE]; exact hw2)
                      have hD := HD.out.on HBw.out
                      have hf2 := HGG.out.good.fin_at hr4
                      rw [Int.toNat_natCast] at hf HOf HOK2 HT
                      rw [hf] at hf2
                      obtain ⟨adn, Ar, cr, rfl, hnb, hrc, hrl, hrl2, hri⟩ := hD.rows _ _ hr1
                      obtain ⟨adr, rfl, _, hrcell, hrlt⟩ := hri.get hr3
                      obtain ⟨adf, e9, _, hfcell, hflt⟩ := hD.fins.at_ hf2
                      obtain rfl := Option.some.inj e9
                      rw [HM.out] at hflt
                      rw [HN.out] at hlt2
                      subst hqs
                      have h2 := (HX.out.on HBw.out).c2
                      have h3 := (HX.out.on HBw.out).c3
                      obtain ⟨rl, hrlen⟩ : ∃ rl, r.length = rl := ⟨_, rfl⟩
                      rw [hrlen] at hrc hrl hrlt
                      generalize hy : Df.step d0 G.s a2 = y at *
                      clear e9 hof hl hol hLE hD hri hr1 hr2 hr3 hf2 hnb hrlen hy
                      obtain ⟨nv, fv, pv, rs, hGV⟩ := HS.out
                      have HGV := Lib.hid hGV
                      have HFr := Lib.hid hGV.front
                      clear hf hGV hsh
                      go_wp2_with (at_builtin; refine own_int rfl _ _ rfl rfl HFr.out rfl (by rw [HNL2.out]; omega) ?_)
                      intro g2 cap w4 ho
                      obtain ⟨n2, hn2⟩ : ∃ n2, G.out.length + 1 = n2 := ⟨_, rfl⟩
                      rw [hn2] at ho ⊢
                      have HS : Hid (GateW b2 w4 g d0 G [eInts (.slice (some ⟨g2, 0, none⟩) n2 cap) (G.out ++ [(a2 : Int)])] []) := ⟨_, _, _, _, HGV.out.tail.swap (by rw [List.append_nil]; exact ho)⟩
                      replace HNL2 : Hid ((G.out ++ [(a2 : Int)]).length = n2) := by unfold Hid; rw [List.length_append]; exact hn2
                      clear HGV HFr ho hn2
                      go_wp2_with fail
                      refine (HOf.out _ _ HS.out).mono ?_
                      rintro e b5 ⟨he, HS⟩
                      obtain rfl : e = .returned (.tuple #[.bool true, .nilIface]) := he.out
                      clear he HOf
                      have HBn := Lib.hid (HB.out.trans (HS.out.below.mono HB.out.size))
                      have HSy := Lib.hid (says_gives hg 0 (E := .nilIface) (K := 0) rfl rfl b5 HBn.out)
                      clear HBn
                      go_wp2_with fail
                      refine HSy.out.mono ?_
                      rintro e b6 ⟨rfl, hb⟩
                      have HS := Lib.hid (HS.out.on hb)
                      clear hb HSy
                      have HSh := Lib.hid (shut_any _ _ _ _ _ _ _ HS.out)
                      rw [show (⟨y, G.out ++ [(a2 : Int)], false⟩ : Gt).shut = false from rfl] at HSh
                      go_wp2_with fail
                      refine HSh.out.mono ?_
                      rintro e b7 ⟨rfl, rfl⟩
                      clear HSh
                      have HO := Lib.hid (gout_len (G := ⟨y, G.out ++ [(a2 : Int)], false⟩) HNL2.out HS.out HGG.out.good HOK2.out)
                      go_wp2_with fail
                      refine HO.out.mono ?_
                      rintro e b8 ⟨Ao, co, rfl, HI, hb⟩
                      have HS := Lib.hid (HS.out.on hb)
                      clear hb HO
                      have HIn := Lib.hid (ints_len (G := ⟨y, G.out ++ [(a2 : Int)], false⟩) HNL2.out HS.out HGG.out.good HOK2.out co HI.out)
                      clear HI
                      go_wp2_with fail
                      refine HIn.out.mono ?_
                      rintro e b9 ⟨rfl, hb⟩
                      have HS := Lib.hid (HS.out.on hb)
                      clear hb HIn
                      go_wp2
                      go_roundw
                      case rel => exact ⟨k + 1, y, by omega, by omega, by go_num, rfl, by rw [HT.out], by unfold Hid; rw [HT.out]; exact (fun _ => rfl), by unfold Hid; rw [HT.out]; exact HS.out⟩
                      case measure => simp [intOf]; omega
                  · as_aux_lemma =>
                      rw [hof] at HOf HOK2 HT
                      obtain ⟨hw1, hw2⟩ := isL_iff.1 hl
                      rw [hLE] at hw2
                      have t1 : decide (a < 0) = false := decide_eq_false (by omega)
                      have t2 : decide (L0 ≤ a) = false := decide_eq_false (by omega)
                      rw [hsh]
                      obtain ⟨nl, hnl⟩ : ∃ nl, G.out.length = nl := ⟨_, rfl⟩
                      rw [hnl] at HS hol h80
                      rw [hnl]
                      have HNL2 := Lib.hid hnl
                      clear hnl
                      have t3 : (nl : Int) < 80 := by omega
                      have hqs : q = G.s := HQk.out hsh
                      have hlt2 : G.s < d0.next.length := by rw [HOK.out.st]; exact HGG.out.good.run_lt HOK.out.word HGG.out.good.s_lt
                      obtain ⟨a2, ha2⟩ : ∃ a2 : Nat, a = (a2 : Int) := ⟨a.toNat, by omega⟩
                      subst ha2
                      skip
                      obtain ⟨r, hr1, _, hr2, hr3, hr4⟩ := HGG.out.good.at_ hlt2 (a := a2) (by rw [hLE]; exact hw2)
                      have hD := HD.out.on HBw.out
                      have hf2 := HGG.out.good.fin_at hr4
                      rw [Int.toNat_natCast] at hf
                      rw [hf] at hf2
                      obtain ⟨adn, Ar, cr, rfl, hnb, hrc, hrl, hrl2, hri⟩ := hD.rows _ _ hr1
                      obtain ⟨adr, rfl, _, hrcell, hrlt⟩ := hri.get hr3
                      obtain ⟨adf, e9, _, hfcell, hflt⟩ := hD.fins.at_ hf2
                      obtain rfl := Option.some.inj e9
                      rw [HM.out] at hflt
                      rw [HN.out] at hlt2
                      subst hqs
                      have h2 := (HX.out.on HBw.out).c2
                      have h3 := (HX.out.on HBw.out).c3
                      obtain ⟨rl, hrlen⟩ : ∃ rl, r.length = rl := ⟨_, rfl⟩
                      rw [hrlen] at hrc hrl hrlt
                      generalize hy : Df.step d0 G.s a2 = y at *
                      clear e9 hof hl hol hLE hD hri hr1 hr2 hr3 hf2 hnb hrlen hy
                      clear hxc hf hsh
                      go_wp2_with fail
                      refine (HOf.out _ _ HS.out).mono ?_
                      rintro e b5 ⟨he, HS⟩
                      obtain rfl : e = .returned (.tuple #[.bool false, .nilIface]) := he.out
                      clear he HOf
                      have HBn := Lib.hid (HB.out.trans (HS.out.below.mono HB.out.size))
                      have HSy := Lib.hid (says_gives hg 0 (E := .nilIface) (K := 0) rfl rfl b5 HBn.out)
                      clear HBn
                      go_wp2_with fail
                      refine HSy.out.mono ?_
                      rintro e b6 ⟨rfl, hb⟩
                      have HS := Lib.hid (HS.out.on hb)
                      clear hb HSy
                      have HSh := Lib.hid (shut_any _ _ _ _ _ _ _ HS.out)
                      rw [show (⟨G.s, G.out, true⟩ : Gt).shut = true from rfl] at HSh
                      go_wp2_with fail
                      refine HSh.out.mono ?_
                      rintro e b7 ⟨rfl, rfl⟩
                      clear HSh
                      have HO := Lib.hid (gout_len (G := ⟨G.s, G.out, true⟩) HNL2.out HS.out HGG.out.good HOK2.out)
                      go_wp2_with fail
                      refine HO.out.mono ?_
                      rintro e b8 ⟨Ao, co, rfl, HI, hb⟩
                      have HS := Lib.hid (HS.out.on hb)
                      clear hb HO
                      have HIn := Lib.hid (ints_len (G := ⟨G.s, G.out, true⟩) HNL2.out HS.out HGG.out.good HOK2.out co HI.out)
                      clear HI
                      go_wp2_with fail
                      refine HIn.out.mono ?_
                      rintro e b9 ⟨rfl, hb⟩
                      have HS := Lib.hid (HS.out.on hb)
                      clear hb HIn
                      go_wp2
                      go_roundw
                      case rel => exact ⟨k + 1, y, by omega, by omega, by go_num, rfl, by rw [HT.out], by unfold Hid; rw [HT.out]; exact (fun (h : true = false) => Bool.noConfusion h), by unfold Hid; rw [HT.out]; exact HS.out⟩
                      case measure => simp [intOf]; omega
                · obtain rfl : k = 200 := by omega
                  have e1 : ((200 : Nat) : Int) < (zl : Int) := by omega
                  have HE := Lib.hid (HB.out.trans (HBw.out.mono HB.out.size))
                  clear HS HBw
                  go_wp2
                  go_ret
                  exact ⟨rfl, HE.out⟩
              · obtain rfl : k = zl := by omega
                have HE := Lib.hid (HB.out.trans (HBw.out.mono HB.out.size))
                clear HS HBw
                go_wp2
                go_ret
                exact ⟨rfl, HE.out⟩
  · have HNw := Lib.hid (fun W v (h : DfaAt W W.heap.size v d0) => gnew_bad v d0 W h (by unfold gchk; rw [if_pos g1]; exact g1))
    rw [show gchk d0 = dchk d0 by unfold gchk; rw [if_pos g1]] at HNw
    obtain ⟨e0, he0⟩ : ∃ e0, dchk d0 = e0 + 1 := ⟨dchk d0 - 1, by omega⟩
    rw [he0] at HRD HNw
    have HSay := Lib.hid (fun W hb => says_gives hg (e0 + 1) (E := errI ((e0 + 1 : Nat) : Int)) (K := ((e0 + 1 : Nat) : Int)) rfl rfl W hb)
    have hE0 : (((e0 + 1 : Nat) : Int) == 0) = false := by simp; omega
    have hE1 : (((e0 + 1 : Nat) : Int) != 0) = true := by simp; omega
    rw [errV_succ] at HNw
    clear g1 he0 hg
    generalize ((e0 + 1 : Nat) : Int) = E at *
    go_enter Tryd.func4, Tryd.ntmps4
    go_wp2_with fail
    rw [← HW.out]
    clear HW
    refine (HRD.out _ _ HV.out).mono ?_
    rintro e b1 ⟨he, hb⟩
    obtain rfl : e = .returned (.int .i64 E) := he.out
    have HX := Lib.hid (HX.out.on hb)
    have HD := Lib.hid (HD.out.on hb)
    have HV := Lib.hid (HV.out.on hb)
    have Z := Lib.hid (Z.out.on hb)
    have HB := Lib.hid (HB.out.trans (hb.mono HB.out.size))
    clear hb he HRD hc0 hc1 hc2 hc3
    have hc0 := HX.out.c0
    have hc1 := HX.out.c1
    have hc2 := HX.out.c2
    have hc3 := HX.out.c3
    go_wp2_with fail
    refine (HNw.out _ _ HV.out).mono ?_
    rintro e b3 ⟨he, hb⟩
    obtain rfl : e = .returned (.tuple #[.pointer none, errI E]) := he.out
    have HX := Lib.hid (HX.out.on hb)
    have HD := Lib.hid (HD.out.on hb)
    have HV := Lib.hid (HV.out.on hb)
    have Z := Lib.hid (Z.out.on hb)
    have HB := Lib.hid (HB.out.trans (hb.mono HB.out.size))
    clear hb he HNw hc0 hc1 hc2 hc3
    have HSy := Lib.hid (HSay.out b3 HB.out)
    clear HSay
    go_wp2_with fail
    refine HSy.out.mono ?_
    rintro e b4 ⟨rfl, hb⟩
    have HB := Lib.hid (HB.out.trans (hb.mono HB.out.size))
    clear hb HSy
    go_wp2
    go_ret
    exact ⟨rfl, HB.out⟩


set_option maxRecDepth 100000 in
theorem lifted (os : Os) (started : os.Started) (H : Type) (enc : TypeId × Value → H) :
    ReturnsInHanded {} Tryd.checked os 4 .any (fun w args => (Rows.gatePlaysSpec.pre enc Tryd.prog Tryd.f4 Rows.gatePlaysRow.domain false w args ∧ laidMetH Tryd.prog [("errors.errorType", Rows.laid_errors_errorType)] w) ∧ sizedMet enc Tryd.prog Tryd.f4 (OpenSpec.ofChange Rows.gatePlaysSpec) false w args) (Rows.gatePlaysSpec.post enc Tryd.prog Tryd.f4 false true false false) := by
  refine returnsInHanded_of_change_and (C := Tryd.checked) (X := fun w _ => laidMetH Tryd.prog [("errors.errorType", Rows.laid_errors_errorType)] w) (fun _ _ _ hh h => h.of_heap hh) own started (by kernel_rfl) Tryd.func4
    (ChangeSpec.witness_at (enc := enc) (C := Tryd.checked) (os := os) (X := fun w _ => laidMetH Tryd.prog [("errors.errorType", Rows.laid_errors_errorType)] w) false (laidWorld os) #[.agg #[.int .i64 0, .int .i64 0, .slice none 0 0, .slice none 0 0], .slice none 0 0] 8 rfl (by kernel_rfl) (by kernel_rfl) (by kernel_rfl) (by kernel_rfl) (by kernel_rfl) (laidWorld_met os _)) ?_
  intro W base args ds gs before hval0 hW hcnd hsz0 hL _
  have hval : ∀ (j : Nat) t v, Tryd.f4.params[j]? = some t → args[j]? = some v → Value.okWide Tryd.prog W .any base t v := hval0
  have hsz : (DataW.weightsEach Tryd.prog (Tryd.f4.params.toList ++ Rows.gatePlaysSpec.plain.varTypes Tryd.prog) (ds ++ gs)).all (· ≤ reachBytes) = true := hsz0
  have hW' := hW
  obtain ⟨p, q, hA0, hV0, rfl, hfz, hnd⟩ := hW
  have hV : DataW.TrodVars enc Tryd.prog W (fun _ => true) [] gs q := hV0
  have hA : DataW.TrodAll enc Tryd.prog W 0 (fun _ => true) true Tryd.f4.params.toList args.toList ds p := hA0
  rw [Tryd.params4] at hA hval hsz
  obtain ⟨v0, vs0, d0, ds0, p0, q0, hargs, rfl, rfl, h0, rr0⟩ := trodAll_cons hA
  obtain ⟨v1, vs1, d1, ds1, p1, q1, rfl, rfl, rfl, h1, rr1⟩ := trodAll_cons rr0
  obtain ⟨rfl, rfl, rfl⟩ := trodAll_nil rr1
  obtain rfl : args = #[v0, v1] := by cases args; simp_all
  obtain ⟨rfl, rfl⟩ := trodVars_none hV
  have k0 := h0
  have lt0 : ∀ x ∈ p0, x.block < W.heap.size := by obtain ⟨m, hm⟩ := k0; exact DataW.trod_lt m _ _ _ hm
  have k1 := h1
  have lt1 : ∀ x ∈ p1, x.block < W.heap.size := by obtain ⟨m, hm⟩ := k1; exact DataW.trod_lt m _ _ _ hm
  obtain ⟨D0, x0⟩ : ∃ d : Df.Aut, Df.DfaAt W W.heap.size v0 d := Df.dfa_open (hval 0 25 v0 rfl rfl) h0
  obtain ⟨A1, len1, c1, rfl⟩ := okWide_slice Tryd.underlying38 (hval 1 38 v1 rfl rfl)
  obtain ⟨z1, rfl, x1, r1, m1⟩ : ∃ zs : List Int, len1 = zs.length ∧ IntsAt W W.heap.size A1 zs ∧ zs.length ≤ 17592186043904 ∧ zs.length ≤ c1 := by
    obtain ⟨fuel, hf⟩ := h1
    rcases open_ints Tryd.underlying38 Tryd.underlying3 (by kernel_rfl) hf with ⟨hcs, _⟩ | ⟨x, l, c, zs, hcs, _, hl, hm, hz, hx, hcell, hwz⟩
    · simp [Value.cells] at hcs
      obtain ⟨rfl, rfl, rfl⟩ := hcs
      exact ⟨[], rfl, IntsAt.nil _ _ _, by simp, by simp⟩
    · simp [Value.cells] at hcs
      obtain ⟨rfl, rfl, rfl⟩ := hcs
      have hd := congrArg Prod.fst hx
      simp only at hd
      have := sized_slice hsz (j := 1) (t := 38) (e := 3) rfl (by rw [hd]; rfl) Tryd.underlying38
      rw [(show Tryd.prog.bytesOf 3 = 8 by kernel_rfl)] at this
      simp only [reachBytes, lits, List.length_map, List.length_take, List.length_drop] at this
      have hz' : zs.length = c1 := by simpa using hz
      exact ⟨zs.take len1, by rw [List.length_take]; omega, intsAt_of_open hcell hwz len1, by rw [List.length_take]; omega, by rw [List.length_take]; omega⟩
  clear hA0 hval0
  refine (walk v0 D0 A1 c1 z1 W x0 x1 r1 m1 (handle_of_laid hL)).mono fun e W' ⟨he, bel⟩ => ?_
  subst he
  exact ⟨_, rfl, _, _, _, [], _, [], hW', trodAll_mk1 (shut_bool Tryd.underlying4 _), (trodAll_cons_mk (Below.trod laidOut (by kernel_rfl) (of_decide_eq_true (by kernel_rfl)) k0 bel lt0) (trodAll_cons_mk (Below.trod laidOut (by kernel_rfl) (of_decide_eq_true (by kernel_rfl)) k1 bel lt1) trodAll_mk0)), rfl, bel.frame _, fun h => by cases h⟩

theorem over : Rows.gatePlaysRow.holds Tryd.pinned (OpenSpec.ofChange Rows.gatePlaysSpec) :=
  OpenClaim.holds_of_wide 4 Tryd.f4 rfl rfl rfl rfl rfl rfl rfl ⟨rfl, rfl, rfl, rfl, rfl⟩ rfl rfl rfl rfl rfl (by kernel_rfl) Tryd.func4 (by kernel_rfl)
    (of_decide_eq_true (by kernel_rfl)) (by unfold Func.isWrapper; rw [if_neg (of_decide_eq_false (by kernel_rfl))]; exact ⟨rfl, rfl⟩)
    (fun os started H enc _ => lifted os started H enc)
theorem proved : Rows.GatePlaysCardSaid :=
  Claim7.holds_tied_plain_at .later [] [.handle] true (true, "981ca546801be8388c7bf9378d1b5059e79c51583c5f07ade6ebbebc5cd8e8da") true
    over (fun _ h => by cases h) (by kernel_rfl) (fun _ h => by cases h) gatePlays_row_tie rfl ⟨rfl, rfl⟩ (by kernel_rfl) rfl
    (fun f fn hf hfn => by
      obtain rfl : f = 4 := Option.some.inj ((show Tryd.prog.funcNamed "stileward/stilewardlaw4.GatePlays" = some 4 by kernel_rfl).symm.trans hf) |>.symm
      obtain rfl : fn = Tryd.f4 := (Option.some.inj (Tryd.func4.symm.trans hfn)).symm
      exact ⟨by kernel_rfl, fun j t ht => by
        rw [Tryd.params4] at ht
        rcases j with _ | _ | j
        · obtain rfl : 25 = t := by simpa using ht
          exact (show Tryd.prog.wantsStandIn 25 = false by kernel_rfl)
        · obtain rfl : 38 = t := by simpa using ht
          exact (show Tryd.prog.wantsStandIn 38 = false by kernel_rfl)
        · simp at ht⟩)
    (by kernel_rfl)
#print axioms proved
end Go.Proofs.YtciopfiddfmckaaDoor.gatePlays
