/-
  The statement SafeLeastCardSaid of this seat, proved: for every input the law returns true and its arguments read behind the call as before. Conditions: none but the row's own (each argument within the reach; the listed variable as the program lays it, tied by the given tie).
-/
import Derived.Test.YtneklknhanfcgaaDoorRows
import Derived.Test.YtneklknhanfcgaaDoorCards
import Derived.Test.YtneklknhanfcgaaDoorTie
import Derived.SevenTiedAt
import Derived.LaidLaws
import Derived.LaidHandle
import Derived.LaidMore
import Derived.Lay
import Derived.MakeChecks
import Derived.Stop.Joined
import Derived.JoinedOf
import Derived.RowKit
import Derived.RowKitTokens
import Derived.ChangeSame
import Derived.ChangeVars
import Derived.Test.YtneklknhanfcgaaDoorWords
import Derived.WalkKit
import Derived.ProofKit
import Derived.OpenShut
import Derived.ShutString
import Derived.ChangeOld
import Derived.Below
import Derived.SizedLaws
import Derived.Lib.Hide
import Derived.Test.YtneklknhanfcgaaDoorSafeL
import Derived.Test.YtneklknhanfcgaaDoorFew
import Derived.Test.YtneklknhanfcgaaDoorSays
namespace Go.Proofs.YtneklknhanfcgaaDoor.safeLeast
open Go.ChangeShapes Go.WideShapes Go.ChangeAt Go.RowKit Go.IntWalk Go.Proofs.YtneklknhanfcgaaDoor.Wd
open Go.ChangeMaps (open_string shut_string)
set_option linter.unusedVariables false

theorem own : ownKnob Tryd.prog.godebug = none := by kernel_rfl
theorem laidOut : laidOutB Tryd.prog = true := by kernel_rfl
theorem et : Tryd.prog.globalNamed "errors.errorType" = some 0 := by kernel_rfl
theorem rt : (Tryd.prog.cutTypes.find? (·.1 == "internal/reflectlite.rtype")).map (·.2) = some 98 := by kernel_rfl
theorem oneRow : ((List.range 141).filter fun t => Tryd.prog.rowNamed t [101, 114, 114, 111, 114]) = [28] := by kernel_rfl
theorem size : Tryd.prog.types.size = 141 := by kernel_rfl
/-- What the condition gives a walk: the variable's one cell. -/
theorem handle_of_laid {w : World} (h : laidMetH Tryd.prog [("errors.errorType", Rows.laid_errors_errorType)] w) : w.cell? ⟨0, 0, none⟩ = some (.iface 98 (.agg #[.pointer (some ⟨1, 28, none⟩)])) := by
  have h' : laidMet Tryd.prog [] w ∧ handlesMet Tryd.prog [("errors.errorType", Rows.laid_errors_errorType)] w := h
  obtain ⟨name, u, ty, e1, e2, e3, e4, e5⟩ := h'.2 _ (List.mem_singleton.2 rfl)
  have en : name = [101, 114, 114, 111, 114] := (Option.some.inj e1).symm
  subst en
  obtain rfl := Option.some.inj (rt.symm.trans e2)
  have hm : ty ∈ (List.range 141).filter fun t => Tryd.prog.rowNamed t [101, 114, 114, 111, 114] := List.mem_filter.2 ⟨List.mem_range.2 (by rw [← size]; exact e3), e4⟩
  rw [oneRow] at hm
  obtain rfl := List.mem_singleton.1 hm
  have hh : typeHandle Tryd.prog 28 = .pointer (some ⟨1, 28, none⟩) := by kernel_rfl
  rw [hh] at e5
  simpa using World.var?_cell et e5 0
/-- A world that meets the condition. -/
noncomputable def laidWorld (os : Os) : World :=
  let w0 := World.holding Tryd.prog os ⟨#[], #[], []⟩
  { w0 with heap := w0.heap.modify 0 fun
      | .cells _ t frozen => .cells #[.iface 98 (.agg #[.pointer (some ⟨1, 28, none⟩)])] t frozen
      | o => o }
theorem laidWorld_met (os : Os) (args : Array Value) : laidMetH Tryd.prog [("errors.errorType", Rows.laid_errors_errorType)] ((laidWorld os).forCall (fun _ _ => 0) ⟨#[], args, []⟩).memory :=
  laidMetH_of_parts (laidMet_nil _ _) (by kernel_rfl)
open Go.Proofs.YtneklknhanfcgaaDoor.Wo Go.Proofs.YtneklknhanfcgaaDoor.Er Go.Proofs.YtneklknhanfcgaaDoor.Df Go.Proofs.YtneklknhanfcgaaDoor.Rc Go.Proofs.YtneklknhanfcgaaDoor.Sm Go.Proofs.YtneklknhanfcgaaDoor.Mp Go.Proofs.YtneklknhanfcgaaDoor.Sa
theorem says_gives {w : World} (hg : w.cell? ⟨0, 0, none⟩ = some (.iface 98 (.agg #[.pointer (some ⟨1, 28, none⟩)]))) (e : Nat) {E : Value} {K : Int} (hE : errV e = E) (hK : (e : Int) = K) (W : World) (hb : Below w.heap.size w W) :
    Calls Tryd.prog 9 #[E, .int .i64 K] W fun r w' => r = .returned (.bool true) ∧ Below W.heap.size W w' := by
  subst hE
  subst hK
  exact says e hg W hb
theorem nil_five (W : World) : Calls Tryd.prog 9 #[.nilIface, .int .i64 5] W fun r w' => r = .returned (.bool false) ∧ Below W.heap.size W w' :=
  (error_nil 5 W).mono fun r w' ⟨h1, h2⟩ => ⟨h1.out, by rw [← h2]; exact Below.refl _ _⟩
theorem none_of {d : Aut} (g : Df.Good d) (h : firstW d d.s.toNat = none) {w : List Int} (hw : Word d.L w) : accA d w = false := firstW_none g g.s_lt h hw
theorem none_is {d : Aut} (g : Df.Good d) (h : ∀ w, Word d.L w → accA d w = false) : firstOut d = ([], 5) := firstOut_none (dchk_iff.2 g) (firstW_is_none g g.s_lt h)

set_option maxRecDepth 100000 in
set_option maxHeartbeats 4000000 in
theorem walk (v0 : Value) (d0 : Df.Aut) (v1 : Value) (d1 : Df.Aut) (w : World) (h0 : Df.DfaAt w w.heap.size v0 d0) (h1 : Df.DfaAt w w.heap.size v1 d1) (hg : w.cell? ⟨0, 0, none⟩ = some (.iface 98 (.agg #[.pointer (some ⟨1, 28, none⟩)]))) :
    Calls Tryd.prog 3 #[v0, v1] w fun e w' => e = .returned (.bool true) ∧ Below w.heap.size w w' := by
  obtain ⟨L0, s0, A0, n0, c0, F0, m0, k0, rfl⟩ := h0.form
  have hN0 := h0.eqs.2.2.1
  obtain ⟨L1, s1, A1, n1, c1, F1, m1, k1, rfl⟩ := h1.form
  have hN1 := h1.eqs.2.2.1
  obtain ⟨u0, hu0, hb0, VA0, VB0⟩ := vars_two w h0 h1
  have VA := Lib.hid VA0
  have VB := Lib.hid VB0
  have B := Lib.hid hb0
  have W0 := Lib.hid hu0
  have HN0 := Lib.hid hN0
  have HN1 := Lib.hid hN1
  clear VA0 hb0 hu0 h0 hN0 VB0 h1 hN1
  have HK := Lib.hid Sa.known_any
  have HG := Lib.hid hg
  clear HN0 HN1
  by_cases g1 : dchk d0 = 0
  · have Ga := dchk_iff.1 g1
    have HP := Lib.hid (fun W v (h : DfaAt W W.heap.size v d0) => pre_gives (E := .nilIface) h (mkO_ok Ga) rfl)
    by_cases g2 : dchk d1 = 0
    · have Gb := dchk_iff.1 g2
      have HC := Lib.hid (fun W v (h : DfaAt W W.heap.size v d1) => cls_gives (E := .nilIface) h (clsOut_ok Gb) rfl)
      rcases prod_two d0 d1 with ⟨k, hp⟩ | ⟨gg, l, hf⟩
      · have HBu := Lib.hid (fun W v z (h : DfaAt W W.heap.size v d0) (h2 : DfaAt W W.heap.size z d1) => but_gives (E := errI ((k + 1 : Nat) : Int)) h h2 (hp _) rfl)
        clear g1 g2 Ga Gb hp hg HG
        generalize ((k + 1 : Nat) : Int) = e at *
        generalize classA d1 = n at *
        generalize preA d0 = P at *
        go_enter Tryd.func3, Tryd.ntmps3
        go_wp2_with fail
        rw [← W0.out]
        clear W0
        refine (HK.out _).mono ?_
        rintro e u1 ⟨rfl, hb⟩
        have VA := Lib.hid (VA.out.on hb)
        have VB := Lib.hid (VB.out.on hb)
        have B := Lib.hid (B.out.trans (hb.mono B.out.size))
        clear hb  HK
        obtain ⟨p0, p1, p2, p3, p4⟩ := VA.out.box
        go_wp2_with fail
        refine (HP.out _ _ VA.out.at_).mono ?_
        rintro e u2 ⟨L12, s12, A12, n12, c12, F12, m12, k12, rfl, hd, hb⟩
        have VA := Lib.hid (VA.out.on hb)
        have VB := Lib.hid (VB.out.on hb)
        have B := Lib.hid (B.out.trans (hb.mono B.out.size))
        clear hb p0 p1 p2 p3 p4 HP
        obtain ⟨x2, hx2, hbn, Vn⟩ := var_new u2 hd.out
        have VP := Lib.hid Vn
        have VA := Lib.hid (VA.out.on hbn)
        have VB := Lib.hid (VB.out.on hbn)
        have B := Lib.hid (B.out.trans (hbn.mono B.out.size))
        clear hbn Vn hd
        obtain ⟨p0, p1, p2, p3, p4⟩ := VB.out.box
        rw [hx2] at p1 p2 p3 p4
        have HX := Lib.hid hx2
        clear hx2
        go_wp2_with fail
        rw [← HX.out]
        clear HX
        refine (HC.out _ _ VB.out.at_).mono ?_
        rintro e u3 ⟨rfl, hb⟩
        have VA := Lib.hid (VA.out.on hb)
        have VB := Lib.hid (VB.out.on hb)
        have VP := Lib.hid (VP.out.on hb)
        have B := Lib.hid (B.out.trans (hb.mono B.out.size))
        clear hb p0 p1 p2 p3 p4 HC
        obtain ⟨p0, p1, p2, p3, p4⟩ := VA.out.box
        obtain ⟨q0, q1, q2, q3, q4⟩ := VB.out.box
        go_wp2_with fail
        refine (HBu.out _ _ _ VA.out.at_ VB.out.at_).mono ?_
        rintro e u4 ⟨L14, s14, A14, n14, c14, F14, m14, k14, rfl, hd, hb⟩
        have VA := Lib.hid (VA.out.on hb)
        have VB := Lib.hid (VB.out.on hb)
        have VP := Lib.hid (VP.out.on hb)
        have B := Lib.hid (B.out.trans (hb.mono B.out.size))
        clear hb p0 p1 p2 p3 p4 q0 q1 q2 q3 q4 HBu
        obtain ⟨x4, hx4, hbn, Vn⟩ := var_new u4 hd.out
        have VO := Lib.hid Vn
        have VA := Lib.hid (VA.out.on hbn)
        have VB := Lib.hid (VB.out.on hbn)
        have VP := Lib.hid (VP.out.on hbn)
        have B := Lib.hid (B.out.trans (hbn.mono B.out.size))
        clear hbn Vn hd
        rw [hx4] at B
        clear hx4
        go_wp2
        go_ret
        exact ⟨rfl, B.out⟩
      · have HBu := Lib.hid (fun W v z (h : DfaAt W W.heap.size v d0) (h2 : DfaAt W W.heap.size z d1) => but_gives (E := .nilIface) h h2 (prod_ok gg hf _) rfl)
        have gO := prod_good gg hf (fun p => finA d0 p.1 && !finA d1 p.2)
        have hacc := fun (u : List Int) (hu : Word d0.L u) => prod_acc gg hf (fun p q => p && !q) hu
        have gp2 : Good2 (preA d0) d1 := ⟨judge_good Ga, Gb, gg.eL⟩
        have hfp : found (S2 (preA d0) d1) (start2 (preA d0) d1) = some l := hf
        have HBy := Lib.hid (fun W v z (h : DfaAt W W.heap.size v (preA d0)) (h2 : DfaAt W W.heap.size z d1) => but_gives (E := .nilIface) h h2 (prod_ok gp2 hfp _) rfl)
        have gY := prod_good gp2 hfp (fun p => finA (preA d0) p.1 && !finA d1 p.2)
        have haccY := fun (u : List Int) (hu : Word (preA d0).L u) => prod_acc gp2 hfp (fun p q => p && !q) hu
        have eL : (autOf d0.L (S2 d0 d1) l (fun p => finA d0 p.1 && !finA d1 p.2)).L = d0.L := rfl
        have eY : (autOf (preA d0).L (S2 (preA d0) d1) l (fun p => finA (preA d0) p.1 && !finA d1 p.2)).L = d0.L := rfl
        generalize autOf d0.L (S2 d0 d1) l (fun p => finA d0 p.1 && !finA d1 p.2) = O at *
        generalize autOf (preA d0).L (S2 (preA d0) d1) l (fun p => finA (preA d0) p.1 && !finA d1 p.2) = Y at *
        have hle := class_le d1
        have hodd := class_odd d1
        by_cases hb : begunB d1 = true
        · have hn := hodd.2 hb
          have hnn : classA d1 = 1 ∨ classA d1 = 3 := by omega
          rcases hfw : firstW O O.s.toNat with _ | u
          · have hnone := fun (w : List Int) (hw : Word O.L w) => none_of gO hfw hw
            have hY : firstOut Y = ([], 5) := none_is gY fun w hw => by
              rw [eY] at hw
              rw [haccY w hw]
              exact least_safe gg ((begunB_iff Gb).1 hb) (fun v hv => by rw [← hacc v hv]; exact hnone v (by rw [eL]; exact hv)) hw
            have hO : firstOut O = ([], 5) := firstOut_none (dchk_iff.2 gO) hfw
            have HF := Lib.hid (fun W v (h : DfaAt W W.heap.size v O) => givesI_of (E := errI 5) (first_any v O W h) (by rw [hO]; rfl) (l := []) (by rw [hO]) (fun x hx => by simp at hx))
            have HF2 := Lib.hid (fun W v (h : DfaAt W W.heap.size v Y) => givesI_of (E := errI 5) (first_any v Y W h) (by rw [hY]; rfl) (l := []) (by rw [hY]) (fun x hx => by simp at hx))
            have HE := Lib.hid (fun W (hb : Below w.heap.size w W) => says_gives hg 5 (E := errI 5) (K := 5) rfl rfl W hb)
            clear g1 g2 Ga Gb gg hf hg HG gO hacc gp2 hfp gY haccY eL eY hle hodd hb hn hfw hnone hY hO
            generalize classA d1 = n at *
            generalize preA d0 = P at *
            rcases hnn with rfl | rfl
            all_goals as_aux_lemma =>
              go_enter Tryd.func3, Tryd.ntmps3
              go_wp2_with fail
              rw [← W0.out]
              clear W0
              refine (HK.out _).mono ?_
              rintro e u1 ⟨rfl, hb⟩
              have VA := Lib.hid (VA.out.on hb)
              have VB := Lib.hid (VB.out.on hb)
              have B := Lib.hid (B.out.trans (hb.mono B.out.size))
              clear hb  HK
              obtain ⟨p0, p1, p2, p3, p4⟩ := VA.out.box
              go_wp2_with fail
              refine (HP.out _ _ VA.out.at_).mono ?_
              rintro e u2 ⟨L12, s12, A12, n12, c12, F12, m12, k12, rfl, hd, hb⟩
              have VA := Lib.hid (VA.out.on hb)
              have VB := Lib.hid (VB.out.on hb)
              have B := Lib.hid (B.out.trans (hb.mono B.out.size))
              clear hb p0 p1 p2 p3 p4 HP
              obtain ⟨x2, hx2, hbn, Vn⟩ := var_new u2 hd.out
              have VP := Lib.hid Vn
              have VA := Lib.hid (VA.out.on hbn)
              have VB := Lib.hid (VB.out.on hbn)
              have B := Lib.hid (B.out.trans (hbn.mono B.out.size))
              clear hbn Vn hd
              obtain ⟨p0, p1, p2, p3, p4⟩ := VB.out.box
              rw [hx2] at p1 p2 p3 p4
              have HX := Lib.hid hx2
              clear hx2
              go_wp2_with fail
              rw [← HX.out]
              clear HX
              refine (HC.out _ _ VB.out.at_).mono ?_
              rintro e u3 ⟨rfl, hb⟩
              have VA := Lib.hid (VA.out.on hb)
              have VB := Lib.hid (VB.out.on hb)
              have VP := Lib.hid (VP.out.on hb)
              have B := Lib.hid (B.out.trans (hb.mono B.out.size))
              clear hb p0 p1 p2 p3 p4 HC
              obtain ⟨p0, p1, p2, p3, p4⟩ := VA.out.box
              obtain ⟨q0, q1, q2, q3, q4⟩ := VB.out.box
              go_wp2_with fail
              refine (HBu.out _ _ _ VA.out.at_ VB.out.at_).mono ?_
              rintro e u4 ⟨L14, s14, A14, n14, c14, F14, m14, k14, rfl, hd, hb⟩
              have VA := Lib.hid (VA.out.on hb)
              have VB := Lib.hid (VB.out.on hb)
              have VP := Lib.hid (VP.out.on hb)
              have B := Lib.hid (B.out.trans (hb.mono B.out.size))
              clear hb p0 p1 p2 p3 p4 q0 q1 q2 q3 q4 HBu
              obtain ⟨x4, hx4, hbn, Vn⟩ := var_new u4 hd.out
              have VO := Lib.hid Vn
              have VA := Lib.hid (VA.out.on hbn)
              have VB := Lib.hid (VB.out.on hbn)
              have VP := Lib.hid (VP.out.on hbn)
              have B := Lib.hid (B.out.trans (hbn.mono B.out.size))
              clear hbn Vn hd
              obtain ⟨p0, p1, p2, p3, p4⟩ := VO.out.box
              rw [hx4] at p1 p2 p3 p4
              have HX := Lib.hid hx4
              clear hx4
              go_wp2_with fail
              rw [← HX.out]
              clear HX
              refine (HF.out _ _ VO.out.at_).mono ?_
              rintro e u5 ⟨AHI, cHI, rfl, hI, hb⟩
              have HI := Lib.hid hI.out
              have VA := Lib.hid (VA.out.on hb)
              have VB := Lib.hid (VB.out.on hb)
              have VP := Lib.hid (VP.out.on hb)
              have VO := Lib.hid (VO.out.on hb)
              have B := Lib.hid (B.out.trans (hb.mono B.out.size))
              clear hb hI p0 p1 p2 p3 p4 HF
              clear HI
              go_wp2_with fail
              refine (HE.out _ B.out).mono ?_
              rintro e u6 ⟨rfl, hb⟩
              have VA := Lib.hid (VA.out.on hb)
              have VB := Lib.hid (VB.out.on hb)
              have VP := Lib.hid (VP.out.on hb)
              have VO := Lib.hid (VO.out.on hb)
              have B := Lib.hid (B.out.trans (hb.mono B.out.size))
              clear hb  
              obtain ⟨p0, p1, p2, p3, p4⟩ := VP.out.box
              obtain ⟨q0, q1, q2, q3, q4⟩ := VB.out.box
              go_wp2_with fail
              refine (HBy.out _ _ _ VP.out.at_ VB.out.at_).mono ?_
              rintro e u7 ⟨L17, s17, A17, n17, c17, F17, m17, k17, rfl, hd, hb⟩
              have VA := Lib.hid (VA.out.on hb)
              have VB := Lib.hid (VB.out.on hb)
              have VP := Lib.hid (VP.out.on hb)
              have VO := Lib.hid (VO.out.on hb)
              have B := Lib.hid (B.out.trans (hb.mono B.out.size))
              clear hb p0 p1 p2 p3 p4 q0 q1 q2 q3 q4 HBy
              obtain ⟨x7, hx7, hbn, Vn⟩ := var_new u7 hd.out
              have VY := Lib.hid Vn
              have VA := Lib.hid (VA.out.on hbn)
              have VB := Lib.hid (VB.out.on hbn)
              have VP := Lib.hid (VP.out.on hbn)
              have VO := Lib.hid (VO.out.on hbn)
              have B := Lib.hid (B.out.trans (hbn.mono B.out.size))
              clear hbn Vn hd
              obtain ⟨p0, p1, p2, p3, p4⟩ := VY.out.box
              rw [hx7] at p1 p2 p3 p4
              have HX := Lib.hid hx7
              clear hx7
              go_wp2_with fail
              rw [← HX.out]
              clear HX
              refine (HF2.out _ _ VY.out.at_).mono ?_
              rintro e u8 ⟨AHI, cHI, rfl, hI, hb⟩
              have HI := Lib.hid hI.out
              have VA := Lib.hid (VA.out.on hb)
              have VB := Lib.hid (VB.out.on hb)
              have VP := Lib.hid (VP.out.on hb)
              have VO := Lib.hid (VO.out.on hb)
              have VY := Lib.hid (VY.out.on hb)
              have B := Lib.hid (B.out.trans (hb.mono B.out.size))
              clear hb hI p0 p1 p2 p3 p4 HF2
              clear HI
              go_wp2_with fail
              refine (HE.out _ B.out).mono ?_
              rintro e u9 ⟨rfl, hb⟩
              have VA := Lib.hid (VA.out.on hb)
              have VB := Lib.hid (VB.out.on hb)
              have VP := Lib.hid (VP.out.on hb)
              have VO := Lib.hid (VO.out.on hb)
              have VY := Lib.hid (VY.out.on hb)
              have B := Lib.hid (B.out.trans (hb.mono B.out.size))
              clear hb  HE
              go_wp2
              go_ret
              exact ⟨rfl, B.out⟩
          · have hO : firstOut O = (u, 0) := firstOut_some (dchk_iff.2 gO) hfw
            have hsm := firstOut_small O
            rw [hO] at hsm
            have HF := Lib.hid (fun W v (h : DfaAt W W.heap.size v O) => givesI_of (E := .nilIface) (first_any v O W h) (by rw [hO]; rfl) (l := u) (by rw [hO]) hsm)
            have HE := Lib.hid nil_five
            clear g1 g2 Ga Gb gg hf hg HG gO hacc gp2 hfp gY haccY eL eY hle hodd hb hn hfw hO hsm HBy
            generalize classA d1 = n at *
            generalize preA d0 = P at *
            rcases hnn with rfl | rfl
            all_goals as_aux_lemma =>
              go_enter Tryd.func3, Tryd.ntmps3
              go_wp2_with fail
              rw [← W0.out]
              clear W0
              refine (HK.out _).mono ?_
              rintro e u1 ⟨rfl, hb⟩
              have VA := Lib.hid (VA.out.on hb)
              have VB := Lib.hid (VB.out.on hb)
              have B := Lib.hid (B.out.trans (hb.mono B.out.size))
              clear hb  HK
              obtain ⟨p0, p1, p2, p3, p4⟩ := VA.out.box
              go_wp2_with fail
              refine (HP.out _ _ VA.out.at_).mono ?_
              rintro e u2 ⟨L12, s12, A12, n12, c12, F12, m12, k12, rfl, hd, hb⟩
              have VA := Lib.hid (VA.out.on hb)
              have VB := Lib.hid (VB.out.on hb)
              have B := Lib.hid (B.out.trans (hb.mono B.out.size))
              clear hb p0 p1 p2 p3 p4 HP
              obtain ⟨x2, hx2, hbn, Vn⟩ := var_new u2 hd.out
              have VP := Lib.hid Vn
              have VA := Lib.hid (VA.out.on hbn)
              have VB := Lib.hid (VB.out.on hbn)
              have B := Lib.hid (B.out.trans (hbn.mono B.out.size))
              clear hbn Vn hd
              obtain ⟨p0, p1, p2, p3, p4⟩ := VB.out.box
              rw [hx2] at p1 p2 p3 p4
              have HX := Lib.hid hx2
              clear hx2
              go_wp2_with fail
              rw [← HX.out]
              clear HX
              refine (HC.out _ _ VB.out.at_).mono ?_
              rintro e u3 ⟨rfl, hb⟩
              have VA := Lib.hid (VA.out.on hb)
              have VB := Lib.hid (VB.out.on hb)
              have VP := Lib.hid (VP.out.on hb)
              have B := Lib.hid (B.out.trans (hb.mono B.out.size))
              clear hb p0 p1 p2 p3 p4 HC
              obtain ⟨p0, p1, p2, p3, p4⟩ := VA.out.box
              obtain ⟨q0, q1, q2, q3, q4⟩ := VB.out.box
              go_wp2_with fail
              refine (HBu.out _ _ _ VA.out.at_ VB.out.at_).mono ?_
              rintro e u4 ⟨L14, s14, A14, n14, c14, F14, m14, k14, rfl, hd, hb⟩
              have VA := Lib.hid (VA.out.on hb)
              have VB := Lib.hid (VB.out.on hb)
              have VP := Lib.hid (VP.out.on hb)
              have B := Lib.hid (B.out.trans (hb.mono B.out.size))
              clear hb p0 p1 p2 p3 p4 q0 q1 q2 q3 q4 HBu
              obtain ⟨x4, hx4, hbn, Vn⟩ := var_new u4 hd.out
              have VO := Lib.hid Vn
              have VA := Lib.hid (VA.out.on hbn)
              have VB := Lib.hid (VB.out.on hbn)
              have VP := Lib.hid (VP.out.on hbn)
              have B := Lib.hid (B.out.trans (hbn.mono B.out.size))
              clear hbn Vn hd
              obtain ⟨p0, p1, p2, p3, p4⟩ := VO.out.box
              rw [hx4] at p1 p2 p3 p4
              have HX := Lib.hid hx4
              clear hx4
              go_wp2_with fail
              rw [← HX.out]
              clear HX
              refine (HF.out _ _ VO.out.at_).mono ?_
              rintro e u5 ⟨AHI, cHI, rfl, hI, hb⟩
              have HI := Lib.hid hI.out
              have VA := Lib.hid (VA.out.on hb)
              have VB := Lib.hid (VB.out.on hb)
              have VP := Lib.hid (VP.out.on hb)
              have VO := Lib.hid (VO.out.on hb)
              have B := Lib.hid (B.out.trans (hb.mono B.out.size))
              clear hb hI p0 p1 p2 p3 p4 HF
              clear HI
              go_wp2_with fail
              refine (HE.out _).mono ?_
              rintro e u6 ⟨rfl, hb⟩
              have VA := Lib.hid (VA.out.on hb)
              have VB := Lib.hid (VB.out.on hb)
              have VP := Lib.hid (VP.out.on hb)
              have VO := Lib.hid (VO.out.on hb)
              have B := Lib.hid (B.out.trans (hb.mono B.out.size))
              clear hb  HE
              go_wp2
              go_ret
              exact ⟨rfl, B.out⟩
        · have hnn : classA d1 = 0 ∨ classA d1 = 2 := by have : ¬ classA d1 % 2 = 1 := fun h => hb (hodd.1 h); omega
          clear g1 g2 Ga Gb gg hf hg HG gO hacc gp2 hfp gY haccY eL eY hle hodd hb HBy
          generalize classA d1 = n at *
          generalize preA d0 = P at *
          rcases hnn with rfl | rfl
          all_goals as_aux_lemma =>
            go_enter Tryd.func3, Tryd.ntmps3
            go_wp2_with fail
            rw [← W0.out]
            clear W0
            refine (HK.out _).mono ?_
            rintro e u1 ⟨rfl, hb⟩
            have VA := Lib.hid (VA.out.on hb)
            have VB := Lib.hid (VB.out.on hb)
            have B := Lib.hid (B.out.trans (hb.mono B.out.size))
            clear hb  HK
            obtain ⟨p0, p1, p2, p3, p4⟩ := VA.out.box
            go_wp2_with fail
            refine (HP.out _ _ VA.out.at_).mono ?_
            rintro e u2 ⟨L12, s12, A12, n12, c12, F12, m12, k12, rfl, hd, hb⟩
            have VA := Lib.hid (VA.out.on hb)
            have VB := Lib.hid (VB.out.on hb)
            have B := Lib.hid (B.out.trans (hb.mono B.out.size))
            clear hb p0 p1 p2 p3 p4 HP
            obtain ⟨x2, hx2, hbn, Vn⟩ := var_new u2 hd.out
            have VP := Lib.hid Vn
            have VA := Lib.hid (VA.out.on hbn)
            have VB := Lib.hid (VB.out.on hbn)
            have B := Lib.hid (B.out.trans (hbn.mono B.out.size))
            clear hbn Vn hd
            obtain ⟨p0, p1, p2, p3, p4⟩ := VB.out.box
            rw [hx2] at p1 p2 p3 p4
            have HX := Lib.hid hx2
            clear hx2
            go_wp2_with fail
            rw [← HX.out]
            clear HX
            refine (HC.out _ _ VB.out.at_).mono ?_
            rintro e u3 ⟨rfl, hb⟩
            have VA := Lib.hid (VA.out.on hb)
            have VB := Lib.hid (VB.out.on hb)
            have VP := Lib.hid (VP.out.on hb)
            have B := Lib.hid (B.out.trans (hb.mono B.out.size))
            clear hb p0 p1 p2 p3 p4 HC
            obtain ⟨p0, p1, p2, p3, p4⟩ := VA.out.box
            obtain ⟨q0, q1, q2, q3, q4⟩ := VB.out.box
            go_wp2_with fail
            refine (HBu.out _ _ _ VA.out.at_ VB.out.at_).mono ?_
            rintro e u4 ⟨L14, s14, A14, n14, c14, F14, m14, k14, rfl, hd, hb⟩
            have VA := Lib.hid (VA.out.on hb)
            have VB := Lib.hid (VB.out.on hb)
            have VP := Lib.hid (VP.out.on hb)
            have B := Lib.hid (B.out.trans (hb.mono B.out.size))
            clear hb p0 p1 p2 p3 p4 q0 q1 q2 q3 q4 HBu
            obtain ⟨x4, hx4, hbn, Vn⟩ := var_new u4 hd.out
            have VO := Lib.hid Vn
            have VA := Lib.hid (VA.out.on hbn)
            have VB := Lib.hid (VB.out.on hbn)
            have VP := Lib.hid (VP.out.on hbn)
            have B := Lib.hid (B.out.trans (hbn.mono B.out.size))
            clear hbn Vn hd
            rw [hx4] at B
            clear hx4
            go_wp2
            go_ret
            exact ⟨rfl, B.out⟩
    · obtain ⟨E, hE⟩ := errV_bad g2
      have HC := Lib.hid (fun W v (h : DfaAt W W.heap.size v d1) => cls_gives h (clsOut_bad g2) hE)
      obtain ⟨⟨r, k⟩, hr⟩ : ∃ p, p = prodOut (fun a b => a && !b) d0 d1 := ⟨_, rfl⟩
      have HBu := Lib.hid (fun W v z (h : DfaAt W W.heap.size v d0) (h2 : DfaAt W W.heap.size z d1) => but_gives h h2 hr.symm rfl)
      clear g1 g2 Ga hE hr hg HG
      generalize errV k = E3 at *
      generalize preA d0 = P at *
      go_enter Tryd.func3, Tryd.ntmps3
      go_wp2_with fail
      rw [← W0.out]
      clear W0
      refine (HK.out _).mono ?_
      rintro e u1 ⟨rfl, hb⟩
      have VA := Lib.hid (VA.out.on hb)
      have VB := Lib.hid (VB.out.on hb)
      have B := Lib.hid (B.out.trans (hb.mono B.out.size))
      clear hb  HK
      obtain ⟨p0, p1, p2, p3, p4⟩ := VA.out.box
      go_wp2_with fail
      refine (HP.out _ _ VA.out.at_).mono ?_
      rintro e u2 ⟨L12, s12, A12, n12, c12, F12, m12, k12, rfl, hd, hb⟩
      have VA := Lib.hid (VA.out.on hb)
      have VB := Lib.hid (VB.out.on hb)
      have B := Lib.hid (B.out.trans (hb.mono B.out.size))
      clear hb p0 p1 p2 p3 p4 HP
      obtain ⟨x2, hx2, hbn, Vn⟩ := var_new u2 hd.out
      have VP := Lib.hid Vn
      have VA := Lib.hid (VA.out.on hbn)
      have VB := Lib.hid (VB.out.on hbn)
      have B := Lib.hid (B.out.trans (hbn.mono B.out.size))
      clear hbn Vn hd
      obtain ⟨p0, p1, p2, p3, p4⟩ := VB.out.box
      rw [hx2] at p1 p2 p3 p4
      have HX := Lib.hid hx2
      clear hx2
      go_wp2_with fail
      rw [← HX.out]
      clear HX
      refine (HC.out _ _ VB.out.at_).mono ?_
      rintro e u3 ⟨rfl, hb⟩
      have VA := Lib.hid (VA.out.on hb)
      have VB := Lib.hid (VB.out.on hb)
      have VP := Lib.hid (VP.out.on hb)
      have B := Lib.hid (B.out.trans (hb.mono B.out.size))
      clear hb p0 p1 p2 p3 p4 HC
      obtain ⟨p0, p1, p2, p3, p4⟩ := VA.out.box
      obtain ⟨q0, q1, q2, q3, q4⟩ := VB.out.box
      go_wp2_with fail
      refine (HBu.out _ _ _ VA.out.at_ VB.out.at_).mono ?_
      rintro e u4 ⟨L14, s14, A14, n14, c14, F14, m14, k14, rfl, hd, hb⟩
      have VA := Lib.hid (VA.out.on hb)
      have VB := Lib.hid (VB.out.on hb)
      have VP := Lib.hid (VP.out.on hb)
      have B := Lib.hid (B.out.trans (hb.mono B.out.size))
      clear hb p0 p1 p2 p3 p4 q0 q1 q2 q3 q4 HBu
      obtain ⟨x4, hx4, hbn, Vn⟩ := var_new u4 hd.out
      have VO := Lib.hid Vn
      have VA := Lib.hid (VA.out.on hbn)
      have VB := Lib.hid (VB.out.on hbn)
      have VP := Lib.hid (VP.out.on hbn)
      have B := Lib.hid (B.out.trans (hbn.mono B.out.size))
      clear hbn Vn hd
      rw [hx4] at B
      clear hx4
      go_wp2
      go_ret
      exact ⟨rfl, B.out⟩
  · obtain ⟨E, hE⟩ := errV_bad g1
    have HP := Lib.hid (fun W v (h : DfaAt W W.heap.size v d0) => pre_gives h (mkO_bad (K := preA) g1) hE)
    obtain ⟨⟨n, k2⟩, hr2⟩ : ∃ p, p = clsOut d1 := ⟨_, rfl⟩
    have HC := Lib.hid (fun W v (h : DfaAt W W.heap.size v d1) => cls_gives h hr2.symm rfl)
    obtain ⟨⟨r, k⟩, hr⟩ : ∃ p, p = prodOut (fun a b => a && !b) d0 d1 := ⟨_, rfl⟩
    have HBu := Lib.hid (fun W v z (h : DfaAt W W.heap.size v d0) (h2 : DfaAt W W.heap.size z d1) => but_gives h h2 hr.symm rfl)
    clear g1 hE hr hr2 hg HG
    generalize errV k = E3 at *
    generalize errV k2 = E2 at *
    go_enter Tryd.func3, Tryd.ntmps3
    go_wp2_with fail
    rw [← W0.out]
    clear W0
    refine (HK.out _).mono ?_
    rintro e u1 ⟨rfl, hb⟩
    have VA := Lib.hid (VA.out.on hb)
    have VB := Lib.hid (VB.out.on hb)
    have B := Lib.hid (B.out.trans (hb.mono B.out.size))
    clear hb  HK
    obtain ⟨p0, p1, p2, p3, p4⟩ := VA.out.box
    go_wp2_with fail
    refine (HP.out _ _ VA.out.at_).mono ?_
    rintro e u2 ⟨L12, s12, A12, n12, c12, F12, m12, k12, rfl, hd, hb⟩
    have VA := Lib.hid (VA.out.on hb)
    have VB := Lib.hid (VB.out.on hb)
    have B := Lib.hid (B.out.trans (hb.mono B.out.size))
    clear hb p0 p1 p2 p3 p4 HP
    obtain ⟨x2, hx2, hbn, Vn⟩ := var_new u2 hd.out
    have VP := Lib.hid Vn
    have VA := Lib.hid (VA.out.on hbn)
    have VB := Lib.hid (VB.out.on hbn)
    have B := Lib.hid (B.out.trans (hbn.mono B.out.size))
    clear hbn Vn hd
    obtain ⟨p0, p1, p2, p3, p4⟩ := VB.out.box
    rw [hx2] at p1 p2 p3 p4
    have HX := Lib.hid hx2
    clear hx2
    go_wp2_with fail
    rw [← HX.out]
    clear HX
    refine (HC.out _ _ VB.out.at_).mono ?_
    rintro e u3 ⟨rfl, hb⟩
    have VA := Lib.hid (VA.out.on hb)
    have VB := Lib.hid (VB.out.on hb)
    have VP := Lib.hid (VP.out.on hb)
    have B := Lib.hid (B.out.trans (hb.mono B.out.size))
    clear hb p0 p1 p2 p3 p4 HC
    obtain ⟨p0, p1, p2, p3, p4⟩ := VA.out.box
    obtain ⟨q0, q1, q2, q3, q4⟩ := VB.out.box
    go_wp2_with fail
    refine (HBu.out _ _ _ VA.out.at_ VB.out.at_).mono ?_
    rintro e u4 ⟨L14, s14, A14, n14, c14, F14, m14, k14, rfl, hd, hb⟩
    have VA := Lib.hid (VA.out.on hb)
    have VB := Lib.hid (VB.out.on hb)
    have VP := Lib.hid (VP.out.on hb)
    have B := Lib.hid (B.out.trans (hb.mono B.out.size))
    clear hb p0 p1 p2 p3 p4 q0 q1 q2 q3 q4 HBu
    obtain ⟨x4, hx4, hbn, Vn⟩ := var_new u4 hd.out
    have VO := Lib.hid Vn
    have VA := Lib.hid (VA.out.on hbn)
    have VB := Lib.hid (VB.out.on hbn)
    have VP := Lib.hid (VP.out.on hbn)
    have B := Lib.hid (B.out.trans (hbn.mono B.out.size))
    clear hbn Vn hd
    rw [hx4] at B
    clear hx4
    go_wp2
    go_ret
    exact ⟨rfl, B.out⟩


set_option maxRecDepth 100000 in
theorem lifted (os : Os) (started : os.Started) (H : Type) (enc : TypeId × Value → H) :
    ReturnsInHanded {} Tryd.checked os 3 .any (fun w args => (Rows.safeLeastSpec.pre enc Tryd.prog Tryd.f3 Rows.safeLeastRow.domain false w args ∧ laidMetH Tryd.prog [("errors.errorType", Rows.laid_errors_errorType)] w) ∧ sizedMet enc Tryd.prog Tryd.f3 (OpenSpec.ofChange Rows.safeLeastSpec) false w args) (Rows.safeLeastSpec.post enc Tryd.prog Tryd.f3 false true false false) := by
  refine returnsInHanded_of_change_and (C := Tryd.checked) (X := fun w _ => laidMetH Tryd.prog [("errors.errorType", Rows.laid_errors_errorType)] w) (fun _ _ _ hh h => h.of_heap hh) own started (by kernel_rfl) Tryd.func3
    (ChangeSpec.witness_at (enc := enc) (C := Tryd.checked) (os := os) (X := fun w _ => laidMetH Tryd.prog [("errors.errorType", Rows.laid_errors_errorType)] w) false (laidWorld os) #[.agg #[.int .i64 0, .int .i64 0, .slice none 0 0, .slice none 0 0], .agg #[.int .i64 0, .int .i64 0, .slice none 0 0, .slice none 0 0]] 8 rfl (by kernel_rfl) (by kernel_rfl) (by kernel_rfl) (by kernel_rfl) (by kernel_rfl) (laidWorld_met os _)) ?_
  intro W base args ds gs before hval0 hW hcnd hsz0 hL _
  have hval : ∀ (j : Nat) t v, Tryd.f3.params[j]? = some t → args[j]? = some v → Value.okWide Tryd.prog W .any base t v := hval0
  have hsz : (DataW.weightsEach Tryd.prog (Tryd.f3.params.toList ++ Rows.safeLeastSpec.plain.varTypes Tryd.prog) (ds ++ gs)).all (· ≤ reachBytes) = true := hsz0
  have hW' := hW
  obtain ⟨p, q, hA0, hV0, rfl, hfz, hnd⟩ := hW
  have hV : DataW.TrodVars enc Tryd.prog W (fun _ => true) [] gs q := hV0
  have hA : DataW.TrodAll enc Tryd.prog W 0 (fun _ => true) true Tryd.f3.params.toList args.toList ds p := hA0
  rw [Tryd.params3] at hA hval hsz
  obtain ⟨v0, vs0, d0, ds0, p0, q0, hargs, rfl, rfl, h0, rr0⟩ := trodAll_cons hA
  obtain ⟨v1, vs1, d1, ds1, p1, q1, rfl, rfl, rfl, h1, rr1⟩ := trodAll_cons rr0
  obtain ⟨rfl, rfl, rfl⟩ := trodAll_nil rr1
  obtain rfl : args = #[v0, v1] := by cases args; simp_all
  obtain ⟨rfl, rfl⟩ := trodVars_none hV
  have k0 := h0
  have lt0 : ∀ x ∈ p0, x.block < W.heap.size := by obtain ⟨m, hm⟩ := k0; exact DataW.trod_lt m _ _ _ hm
  have k1 := h1
  have lt1 : ∀ x ∈ p1, x.block < W.heap.size := by obtain ⟨m, hm⟩ := k1; exact DataW.trod_lt m _ _ _ hm
  obtain ⟨D0, x0⟩ : ∃ d : Df.Aut, Df.DfaAt W W.heap.size v0 d := Df.dfa_open (hval 0 25 v0 rfl rfl) h0
  obtain ⟨D1, x1⟩ : ∃ d : Df.Aut, Df.DfaAt W W.heap.size v1 d := Df.dfa_open (hval 1 25 v1 rfl rfl) h1
  clear hA0 hval0
  refine (walk v0 D0 v1 D1 W x0 x1 (handle_of_laid hL)).mono fun e W' ⟨he, bel⟩ => ?_
  subst he
  exact ⟨_, rfl, _, _, _, [], _, [], hW', trodAll_mk1 (shut_bool Tryd.underlying4 _), (trodAll_cons_mk (Below.trod laidOut (by kernel_rfl) (of_decide_eq_true (by kernel_rfl)) k0 bel lt0) (trodAll_cons_mk (Below.trod laidOut (by kernel_rfl) (of_decide_eq_true (by kernel_rfl)) k1 bel lt1) trodAll_mk0)), rfl, bel.frame _, fun h => by cases h⟩

theorem over : Rows.safeLeastRow.holds Tryd.pinned (OpenSpec.ofChange Rows.safeLeastSpec) :=
  OpenClaim.holds_of_wide 3 Tryd.f3 rfl rfl rfl rfl rfl rfl rfl ⟨rfl, rfl, rfl, rfl, rfl⟩ rfl rfl rfl rfl rfl (by kernel_rfl) Tryd.func3 (by kernel_rfl)
    (of_decide_eq_true (by kernel_rfl)) (by unfold Func.isWrapper; rw [if_neg (of_decide_eq_false (by kernel_rfl))]; exact ⟨rfl, rfl⟩)
    (fun os started H enc _ => lifted os started H enc)
theorem proved : Rows.SafeLeastCardSaid :=
  Claim7.holds_tied_plain_at .later [] [.handle] true (true, "f32b710fc94d1131a59bd63ecfa1217a82345e7aab2ae14fa3982127797a03f9") true
    over (fun _ h => by cases h) (by kernel_rfl) (fun _ h => by cases h) safeLeast_row_tie rfl ⟨rfl, rfl⟩ (by kernel_rfl) rfl
    (fun f fn hf hfn => by
      obtain rfl : f = 3 := Option.some.inj ((show Tryd.prog.funcNamed "stileward/stilewardlaw4.SafeLeast" = some 3 by kernel_rfl).symm.trans hf) |>.symm
      obtain rfl : fn = Tryd.f3 := (Option.some.inj (Tryd.func3.symm.trans hfn)).symm
      exact ⟨by kernel_rfl, fun j t ht => by
        rw [Tryd.params3] at ht
        rcases j with _ | _ | j
        · obtain rfl : 25 = t := by simpa using ht
          exact (show Tryd.prog.wantsStandIn 25 = false by kernel_rfl)
        · obtain rfl : 25 = t := by simpa using ht
          exact (show Tryd.prog.wantsStandIn 25 = false by kernel_rfl)
        · simp at ht⟩)
    (by kernel_rfl)
#print axioms proved
end Go.Proofs.YtneklknhanfcgaaDoor.safeLeast
