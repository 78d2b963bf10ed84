/-
  The statement NfaMakesCardSaid of this seat, proved: for every input the law returns true and its arguments read behind the call as before. Conditions: none but the row's own (each argument within the reach; the listed variable as the program lays it, tied by the given tie).
-/
import Derived.Test.YtlhhhdgkdbplmaaDoorRows
import Derived.Test.YtlhhhdgkdbplmaaDoorCards
import Derived.Test.YtlhhhdgkdbplmaaDoorTie
import Derived.SevenTiedAt
import Derived.LaidLaws
import Derived.LaidHandle
import Derived.Stop.Joined
import Derived.JoinedOf
import Derived.RowKit
import Derived.RowKitTokens
import Derived.ChangeSame
import Derived.ChangeVars
import Derived.Test.YtlhhhdgkdbplmaaDoorWords
import Derived.WalkKit
import Derived.ProofKit
import Derived.OpenShut
import Derived.ShutString
import Derived.ChangeOld
import Derived.Below
import Derived.SizedLaws
import Derived.Lib.Hide
import Derived.Test.YtlhhhdgkdbplmaaDoorNfaV
import Derived.Test.YtlhhhdgkdbplmaaDoorRefSet
import Derived.Test.YtlhhhdgkdbplmaaDoorSays
import Derived.Test.YtlhhhdgkdbplmaaDoorRefDfa
import Derived.Test.YtlhhhdgkdbplmaaDoorDfaX
import Derived.Test.YtlhhhdgkdbplmaaDoorRefMir
import Derived.Test.YtlhhhdgkdbplmaaDoorRefOf
import Derived.Test.YtlhhhdgkdbplmaaDoorRefMk
namespace Go.Proofs.YtlhhhdgkdbplmaaDoor.nfaMakes
open Go.ChangeShapes Go.WideShapes Go.ChangeAt Go.RowKit Go.IntWalk Go.Proofs.YtlhhhdgkdbplmaaDoor.Wd
open Go.ChangeMaps (open_string shut_string)
set_option linter.unusedVariables false

theorem own : ownKnob Tryd.prog.godebug = none := by kernel_rfl
theorem laidOut : laidOutB Tryd.prog = true := by kernel_rfl
theorem et : Tryd.prog.globalNamed "errors.errorType" = some 0 := by kernel_rfl
theorem rt : (Tryd.prog.cutTypes.find? (·.1 == "internal/reflectlite.rtype")).map (·.2) = some 157 := by kernel_rfl
theorem oneRow : ((List.range 213).filter fun t => Tryd.prog.rowNamed t [101, 114, 114, 111, 114]) = [33] := by kernel_rfl
theorem size : Tryd.prog.types.size = 213 := by kernel_rfl
/-- What the condition gives a walk: the variable's one cell. -/
theorem handle_of_laid {w : World} (h : laidMetH Tryd.prog [("errors.errorType", Rows.laid_errors_errorType)] w) : w.cell? ⟨0, 0, none⟩ = some (.iface 157 (.agg #[.pointer (some ⟨4, 33, none⟩)])) := by
  have h' : laidMet Tryd.prog [] w ∧ handlesMet Tryd.prog [("errors.errorType", Rows.laid_errors_errorType)] w := h
  obtain ⟨name, u, ty, e1, e2, e3, e4, e5⟩ := h'.2 _ (List.mem_singleton.2 rfl)
  have en : name = [101, 114, 114, 111, 114] := (Option.some.inj e1).symm
  subst en
  obtain rfl := Option.some.inj (rt.symm.trans e2)
  have hm : ty ∈ (List.range 213).filter fun t => Tryd.prog.rowNamed t [101, 114, 114, 111, 114] := List.mem_filter.2 ⟨List.mem_range.2 (by rw [← size]; exact e3), e4⟩
  rw [oneRow] at hm
  obtain rfl := List.mem_singleton.1 hm
  have hh : typeHandle Tryd.prog 33 = .pointer (some ⟨4, 33, none⟩) := by kernel_rfl
  rw [hh] at e5
  simpa using World.var?_cell et e5 0
/-- A world that meets the condition. -/
noncomputable def laidWorld (os : Os) : World :=
  let w0 := World.holding Tryd.prog os ⟨#[], #[], []⟩
  { w0 with heap := w0.heap.modify 0 fun
      | .cells _ t frozen => .cells #[.iface 157 (.agg #[.pointer (some ⟨4, 33, none⟩)])] t frozen
      | o => o }
theorem laidWorld_met (os : Os) (args : Array Value) : laidMetH Tryd.prog [("errors.errorType", Rows.laid_errors_errorType)] ((laidWorld os).forCall (fun _ _ => 0) ⟨#[], args, []⟩).memory :=
  laidMetH_of_parts (laidMet_nil _ _) (by kernel_rfl)
open Go.Proofs.YtlhhhdgkdbplmaaDoor.Wo Go.Proofs.YtlhhhdgkdbplmaaDoor.Er Go.Proofs.YtlhhhdgkdbplmaaDoor.Df Go.Proofs.YtlhhhdgkdbplmaaDoor.Rc
theorem rnfa_gives {W : World} {v : Value} {a : Nf.Nfa} (h : Nf.NfaAt W W.heap.size v a) {K : Int} (hK : ((Nf.nchk a : Nat) : Int) = K) : Calls Tryd.prog 8 #[v] W fun e w' => e = .returned (.int .i64 K) ∧ Below W.heap.size W w' :=
  (Nf.rnfa_any v a W h).mono fun e w' ⟨he, hb⟩ => ⟨by rw [he.out, hK], hb⟩
theorem rdfa_gives {W : World} {v : Value} {d : Aut} (h : DfaAt W W.heap.size v d) {K : Int} (hK : ((dchk d : Nat) : Int) = K) : Calls Tryd.prog 16 #[v] W fun e w' => e = .returned (.int .i64 K) ∧ Below W.heap.size W w' :=
  (rdfa_any v d W h).mono fun e w' ⟨he, hb⟩ => ⟨by rw [he.out, hK], hb⟩
theorem says_gives {w : World} (hg : w.cell? ⟨0, 0, none⟩ = some (.iface 157 (.agg #[.pointer (some ⟨4, 33, none⟩)]))) (e : Nat) {E : Value} {K : Int} (hE : errV e = E) (hK : (e : Int) = K) (W : World) (hb : Below w.heap.size w W) :
    Calls Tryd.prog 11 #[E, .int .i64 K] W fun r w' => r = .returned (.bool true) ∧ Below W.heap.size W w' := by
  subst hE
  subst hK
  exact says e hg W hb
theorem lite_make (a : Nf.Nfa) : Lite (Nf.makeOut a).1 := by
  by_cases g : Nf.nchk a = 0
  · rw [Nf.makeOut_ok g]
    rcases hf : found (Nf.T a) (Nf.beg a) with _ | l
    · rw [explOut_none hf]; exact lite_zero
    · rw [explOut_some hf]; exact (Nf.make_good (Nf.nchk_iff.1 g) hf).lite
  · rw [Nf.makeOut_bad g]; exact lite_zero

set_option maxRecDepth 100000 in
set_option maxHeartbeats 4000000 in
theorem walk (v0 : Value) (n0 : Nf.Nfa) (v1 : Value) (d1 : Df.Aut) (w : World) (h0 : Nf.NfaAt w w.heap.size v0 n0) (h1 : Df.DfaAt w w.heap.size v1 d1) (hg : w.cell? ⟨0, 0, none⟩ = some (.iface 157 (.agg #[.pointer (some ⟨4, 33, none⟩)]))) :
    Calls Tryd.prog 3 #[v0, v1] w fun e w' => e = .returned (.bool true) ∧ Below w.heap.size w w' := by
  obtain ⟨L0, s0, A0, a0, c0, M0, b0, e0, F0, m0, k0, rfl⟩ := h0.form
  obtain ⟨L1, s1, A1, a1, c1, F1, m1, k1, rfl⟩ := h1.form
  obtain ⟨ux, hux, hbx, VX0⟩ := Nf.varN_new w h0
  obtain ⟨u0, hu0, hb0, VD0⟩ := var_new ux (h1.on hbx)
  rw [show ux.heap.size = w.heap.size + 1 from by rw [hux]; simp] at VD0
  have VX := Lib.hid (VX0.on hb0)
  have VD := Lib.hid VD0
  have B := Lib.hid (hbx.trans (hb0.mono hbx.size))
  have W0 : Hid (u0 = (w.alloc (.cells #[.int .i64 L0, .int .i64 s0, .slice A0 a0 c0, .slice M0 b0 e0, .slice F0 m0 k0] 25)).alloc (.cells #[.int .i64 L1, .int .i64 s1, .slice A1 a1 c1, .slice F1 m1 k1] 29)) := by rw [Hid, ← hux]; exact hu0
  have hsz : u0.heap.size = w.heap.size + 1 + 1 := by rw [W0.out]; simp
  clear hux hbx VX0 hu0 hb0 VD0 h0 h1
  rcases g1 : Nf.nchk n0 with _ | x0
  · have Gn := Nf.nchk_iff.1 g1
    have HD := Lib.hid (fun W v (h : Nf.NfaAt W W.heap.size v n0) => rnfa_gives (K := 0) h (by rw [g1]; rfl))
    have HSm := Lib.hid (fun W v (h : Nf.NfaAt W W.heap.size v n0) => Nf.rmir_any v n0 W h Gn)
    have HMi := Lib.hid (fun W v (h : Nf.NfaAt W W.heap.size v n0) => Nf.nmir_gives (E := .nilIface) h (Nf.mirOut_ok g1) rfl)
    have HE1 := Lib.hid (fun W (hb : Below w.heap.size w W) => says_gives hg 0 (E := .nilIface) (K := 0) rfl rfl W hb)
    have HN1 := Lib.hid (fun W v z (h : Nf.NfaAt W W.heap.size v (Nf.mir n0)) (h2 : Nf.NfaAt W W.heap.size z (Nf.mir n0)) => Nf.sameN_any v z (Nf.mir n0) W h h2 (Nf.liteN_good (Nf.mir_good Gn)))
    have HSk := Lib.hid (fun W v (h : Nf.NfaAt W W.heap.size v n0) => Nf.rmake_any v n0 W h Gn)
    have HMk := Lib.hid (fun W v (h : Nf.NfaAt W W.heap.size v n0) => Nf.nmake_gives h (r := (Nf.makeOut n0).1) (k := (Nf.makeOut n0).2) rfl rfl)
    have HE2 := Lib.hid (fun W (hb : Below w.heap.size w W) => says_gives hg (Nf.makeOut n0).2 rfl rfl W hb)
    have hl := lite_make n0
    have HS2 := Lib.hid (fun W v z (h : DfaAt W W.heap.size v (Nf.makeOut n0).1) (h2 : DfaAt W W.heap.size z (Nf.makeOut n0).1) => same_gives h h2 hl rfl)
    clear Gn g1 hl
    generalize Nf.mir n0 = MM at *
    generalize Nf.makeOut n0 = TT at *
    obtain ⟨T1, t2⟩ := TT
    simp only at HSk HMk HE2 HS2
    generalize errV t2 = E2 at *
    generalize (t2 : Int) = K2 at *
    rcases g2 : dchk d1 with _ | x1
    · have Gd := dchk_iff.1 g2
      have HRd := Lib.hid (fun W v (h : DfaAt W W.heap.size v d1) => rdfa_gives (K := 0) h (by rw [g2]; rfl))
      have HSo := Lib.hid (fun W v (h : DfaAt W W.heap.size v d1) => Nf.rof_any v d1 W h Gd)
      have HPo := Lib.hid (fun W v (h : DfaAt W W.heap.size v d1) => Nf.of_any v d1 W h)
      rw [Nf.ofOut_ok g2] at HPo
      have HE3 := Lib.hid (fun W (hb : Below w.heap.size w W) => says_gives hg 0 (E := .nilIface) (K := 0) rfl rfl W hb)
      have HN3 := Lib.hid (fun W v z (h : Nf.NfaAt W W.heap.size v (Nf.ofA d1)) (h2 : Nf.NfaAt W W.heap.size z (Nf.ofA d1)) => Nf.sameN_any v z (Nf.ofA d1) W h h2 (Nf.liteN_good (Nf.of_good Gd)))
      simp only at HPo
      rw [show errV 0 = .nilIface from rfl] at HPo
      clear Gd g2
      generalize Nf.ofA d1 = OO at *
      clear hg
      go_enter Tryd.func3, Tryd.ntmps3
      obtain ⟨p0, p1, p2, p3, p4, p5⟩ := VX.out.box
      go_wp2_with fail
      rw [← W0.out]
      clear W0
      refine (HD.out _ _ VX.out.at_).mono ?_
      rintro e u1 ⟨rfl, hb⟩
      have hsz1 := hb.size
      have HSZ : Hid (w.heap.size + 1 + 1 ≤ u1.heap.size) := by rw [Hid, ← hsz]; exact hsz1
      have VX := Lib.hid (VX.out.on hb)
      have VD := Lib.hid (VD.out.on hb)
      have B := Lib.hid (B.out.trans (hb.mono B.out.size))
      clear hb HD p0 p1 p2 p3 p4 p5
      have O1 := (Nf.own_nfa_new (own_start u1) (.int .i64 0) (.int .i64 0) (.slice none 0 0) (.slice none 0 0) (.slice none 0 0)).dfa (.int .i64 0) (.int .i64 0) (.slice none 0 0) (.slice none 0 0)
      rw [show (u1.alloc (.cells #[.int .i64 0, .int .i64 0, .slice none 0 0, .slice none 0 0, .slice none 0 0] 25)).heap.size = u1.heap.size + 1 by simp] at O1
      obtain ⟨uz, huz⟩ : ∃ W, W = (u1.alloc (.cells #[.int .i64 0, .int .i64 0, .slice none 0 0, .slice none 0 0, .slice none 0 0] 25)).alloc (.cells #[.int .i64 0, .int .i64 0, .slice none 0 0, .slice none 0 0] 29) := ⟨_, rfl⟩
      rw [← huz] at O1
      have HUZ := Lib.hid huz
      clear huz
      generalize hgm : u1.heap.size = gm at *
      have hm1 : w.heap.size ≠ gm := by omega
      have hm2 : w.heap.size + 1 ≠ gm := by omega
      have hm3 := hm1.symm
      have hm4 := hm2.symm
      have hx1 : w.heap.size ≠ gm + 1 := by omega
      have hx2 : w.heap.size + 1 ≠ gm + 1 := by omega
      have hx3 := hx1.symm
      have hx4 := hx2.symm
      have hmx : gm ≠ gm + 1 := by omega
      have hxm := hmx.symm
      obtain ⟨gx, hgx⟩ : ∃ g, g = gm + 1 := ⟨_, rfl⟩
      rw [← hgx] at O1 hx1 hx2 hx3 hx4 hmx hxm
      obtain ⟨fs, S⟩ : ∃ fs, Hid (Own u1 uz [eDfa gx [.int .i64 0, .int .i64 0, .slice none 0 0, .slice none 0 0], Nf.eNfa gm [.int .i64 0, .int .i64 0, .slice none 0 0, .slice none 0 0, .slice none 0 0]] fs) := ⟨[], O1⟩
      clear O1 hsz1 hsz
      have HGm := Lib.hid hgm
      have HGe := Lib.hid hgm
      have HGx := Lib.hid hgx
      clear hgm hgx
      obtain ⟨p0, p1, p2, p3, p4, p5⟩ := VX.out.box
      go_wp2_with fail
      rw [← HUZ.out, HGm.out, ← HGx.out]
      clear HUZ HGm HGx
      refine (HSm.out _ _ (VX.out.on S.out.below).at_).mono ?_
      rintro e u3 ⟨he, _⟩
      obtain ⟨xx, rfl, ho⟩ := he.out
      obtain ⟨L12, s12, A12, n12, c12, M12, b12, d12, F12, m12, k12, rfl⟩ := ho.at_.form
      obtain ⟨fs2, om, hh⟩ := ho
      clear p0 p1 p2 p3 p4 p5
      clear he HSm
      obtain ⟨fs3, hfs, S2⟩ : ∃ F, F = fs2 ++ fs ∧ Own u1 u3 [eDfa gx [.int .i64 0, .int .i64 0, .slice none 0 0, .slice none 0 0], Nf.eNfa gm [.int .i64 0, .int .i64 0, .slice none 0 0, .slice none 0 0, .slice none 0 0]] F := ⟨_, rfl, (by have h := S.out.join om; simpa only [List.nil_append] using h)⟩
      replace S := Lib.hid S2
      have HM := Lib.hid (hh.more (fun e he => by rw [hfs]; exact List.mem_append_left _ he : ∀ e ∈ fs2, e ∈ fs3))
      clear hh om S2 hfs
      clear fs2 fs
      skip
      obtain ⟨fs, hfs⟩ : ∃ F, F = fs3 := ⟨_, rfl⟩
      rw [← hfs] at S HM
      clear hfs
      clear fs3
      obtain ⟨p0, p1, p2, p3, p4, p5⟩ := (VX.out.on S.out.below).box
      obtain ⟨gm_0, gmf_0⟩ := Nf.ncell S.out (g := gm) (l := [.int .i64 0, .int .i64 0, .slice none 0 0, .slice none 0 0, .slice none 0 0]) (j := 0) (by simp) rfl
      obtain ⟨gm_1, gmf_1⟩ := Nf.ncell S.out (g := gm) (l := [.int .i64 0, .int .i64 0, .slice none 0 0, .slice none 0 0, .slice none 0 0]) (j := 1) (by simp) rfl
      obtain ⟨gm_2, gmf_2⟩ := Nf.ncell S.out (g := gm) (l := [.int .i64 0, .int .i64 0, .slice none 0 0, .slice none 0 0, .slice none 0 0]) (j := 2) (by simp) rfl
      obtain ⟨gm_3, gmf_3⟩ := Nf.ncell S.out (g := gm) (l := [.int .i64 0, .int .i64 0, .slice none 0 0, .slice none 0 0, .slice none 0 0]) (j := 3) (by simp) rfl
      obtain ⟨gm_4, gmf_4⟩ := Nf.ncell S.out (g := gm) (l := [.int .i64 0, .int .i64 0, .slice none 0 0, .slice none 0 0, .slice none 0 0]) (j := 4) (by simp) rfl
      obtain ⟨u4, hw⟩ : ∃ W, W = (((((u3.setCell ⟨gm, 0, none⟩ (.int .i64 L12)).setCell ⟨gm, 1, none⟩ (.int .i64 s12)).setCell ⟨gm, 2, none⟩ (.slice A12 n12 c12)).setCell ⟨gm, 3, none⟩ (.slice M12 b12 d12)).setCell ⟨gm, 4, none⟩ (.slice F12 m12 k12)) := ⟨_, rfl⟩
      have S2 := (Nf.into5 (S.out.re [1, 0] 2 rfl (by decide)) rfl (.int .i64 L12) (.int .i64 s12) (.slice A12 n12 c12) (.slice M12 b12 d12) (.slice F12 m12 k12) hw).1
      replace S : Hid (Own u1 u4 [eDfa gx [.int .i64 0, .int .i64 0, .slice none 0 0, .slice none 0 0], Nf.eNfa gm [.int .i64 L12, .int .i64 s12, .slice A12 n12 c12, .slice M12 b12 d12, .slice F12 m12 k12]] fs) := S2.re [1, 0] 2 rfl (by decide)
      have HW3 := Lib.hid hw
      clear hw S2
      go_wp2_with fail
      rw [← HW3.out]
      clear HW3
      refine (HMi.out _ _ (VX.out.on S.out.below).at_).mono ?_
      rintro e u5 ⟨L14, s14, A14, n14, c14, M14, b14, d14, F14, m14, k14, rfl, hd, hb⟩
      clear p0 p1 p2 p3 p4 p5 gm_0 gmf_0 gm_1 gmf_1 gm_2 gmf_2 gm_3 gmf_3 gm_4 gmf_4
      replace S := Lib.hid (S.out.on hb)
      clear hb HMi
      have S2 := Nf.own_nfa_new S.out (.int .i64 L14) (.int .i64 s14) (.slice A14 n14 c14) (.slice M14 b14 d14) (.slice F14 m14 k14)
      obtain ⟨u6, hw⟩ : ∃ W, W = u5.alloc (.cells #[.int .i64 L14, .int .i64 s14, .slice A14 n14 c14, .slice M14 b14 d14, .slice F14 m14 k14] 25) := ⟨_, rfl⟩
      have YV := Lib.hid (hd.out.on (show Below u5.heap.size u5 u6 by rw [hw]; exact below_alloc _ _))
      rw [← hw] at S2
      obtain ⟨gy, hgy⟩ : ∃ g, g = u5.heap.size := ⟨_, rfl⟩
      rw [← hgy] at S2
      have hym : gy ≠ gm := by have := (S.out.lt (t := 25) (sz := 5) (n := 1) (cap := 1) (ad := ⟨gm, 0, none⟩) (xs := [.int .i64 L12, .int .i64 s12, .slice A12 n12 c12, .slice M12 b12 d12, .slice F12 m12 k12]) (by simp [Nf.eNfa])).2; intro e; rw [hgy] at e; simp only at this; omega
      have hyx : gy ≠ gx := by have := (S.out.lt (t := 29) (sz := 4) (n := 1) (cap := 1) (ad := ⟨gx, 0, none⟩) (xs := [.int .i64 0, .int .i64 0, .slice none 0 0, .slice none 0 0]) (by simp [eDfa])).2; intro e; rw [hgy] at e; simp only at this; omega
      have hgy2 : gm ≤ gy := by rw [hgy, ← HGe.out]; exact S.out.below.size
      have hmy := hym.symm
      have hxy := hyx.symm
      have hy1 : gy ≠ w.heap.size := by intro e; have := HSZ.out; omega
      have hy2 : gy ≠ w.heap.size + 1 := by intro e; have := HSZ.out; omega
      have hy3 := hy1.symm
      have hy4 := hy2.symm
      replace S : Hid (Own u1 u6 [Nf.eNfa gy [.int .i64 L14, .int .i64 s14, .slice A14 n14 c14, .slice M14 b14 d14, .slice F14 m14 k14], eDfa gx [.int .i64 0, .int .i64 0, .slice none 0 0, .slice none 0 0], Nf.eNfa gm [.int .i64 L12, .int .i64 s12, .slice A12 n12 c12, .slice M12 b12 d12, .slice F12 m12 k12]] fs) := S2
      have HWY := Lib.hid hw
      have HGY := Lib.hid hgy
      clear hw S2 hgy hgy2 hd
      go_wp2_with fail
      rw [← HWY.out, ← HGY.out]
      clear HWY HGY
      refine (HE1.out _ (B.out.trans (S.out.below.mono B.out.size))).mono ?_
      rintro e u7 ⟨rfl, hb⟩
      replace S := Lib.hid (S.out.on hb)
      replace YV := Lib.hid (YV.out.on hb)
      clear hb
      clear HE1
      obtain ⟨gy_0, gyf_0⟩ := Nf.ncell S.out (g := gy) (l := [.int .i64 L14, .int .i64 s14, .slice A14 n14 c14, .slice M14 b14 d14, .slice F14 m14 k14]) (j := 0) (by simp) rfl
      obtain ⟨gy_1, gyf_1⟩ := Nf.ncell S.out (g := gy) (l := [.int .i64 L14, .int .i64 s14, .slice A14 n14 c14, .slice M14 b14 d14, .slice F14 m14 k14]) (j := 1) (by simp) rfl
      obtain ⟨gy_2, gyf_2⟩ := Nf.ncell S.out (g := gy) (l := [.int .i64 L14, .int .i64 s14, .slice A14 n14 c14, .slice M14 b14 d14, .slice F14 m14 k14]) (j := 2) (by simp) rfl
      obtain ⟨gy_3, gyf_3⟩ := Nf.ncell S.out (g := gy) (l := [.int .i64 L14, .int .i64 s14, .slice A14 n14 c14, .slice M14 b14 d14, .slice F14 m14 k14]) (j := 3) (by simp) rfl
      obtain ⟨gy_4, gyf_4⟩ := Nf.ncell S.out (g := gy) (l := [.int .i64 L14, .int .i64 s14, .slice A14 n14 c14, .slice M14 b14 d14, .slice F14 m14 k14]) (j := 4) (by simp) rfl
      obtain ⟨gm_0, gmf_0⟩ := Nf.ncell S.out (g := gm) (l := [.int .i64 L12, .int .i64 s12, .slice A12 n12 c12, .slice M12 b12 d12, .slice F12 m12 k12]) (j := 0) (by simp) rfl
      obtain ⟨gm_1, gmf_1⟩ := Nf.ncell S.out (g := gm) (l := [.int .i64 L12, .int .i64 s12, .slice A12 n12 c12, .slice M12 b12 d12, .slice F12 m12 k12]) (j := 1) (by simp) rfl
      obtain ⟨gm_2, gmf_2⟩ := Nf.ncell S.out (g := gm) (l := [.int .i64 L12, .int .i64 s12, .slice A12 n12 c12, .slice M12 b12 d12, .slice F12 m12 k12]) (j := 2) (by simp) rfl
      obtain ⟨gm_3, gmf_3⟩ := Nf.ncell S.out (g := gm) (l := [.int .i64 L12, .int .i64 s12, .slice A12 n12 c12, .slice M12 b12 d12, .slice F12 m12 k12]) (j := 3) (by simp) rfl
      obtain ⟨gm_4, gmf_4⟩ := Nf.ncell S.out (g := gm) (l := [.int .i64 L12, .int .i64 s12, .slice A12 n12 c12, .slice M12 b12 d12, .slice F12 m12 k12]) (j := 4) (by simp) rfl
      go_wp2_with fail
      refine (HN1.out _ _ _ YV.out (HM.out.at_ S.out)).mono ?_
      rintro e u8 ⟨rfl, hb⟩
      clear gy_0 gyf_0 gy_1 gyf_1 gy_2 gyf_2 gy_3 gyf_3 gy_4 gyf_4 gm_0 gmf_0 gm_1 gmf_1 gm_2 gmf_2 gm_3 gmf_3 gm_4 gmf_4
      replace S := Lib.hid (S.out.on hb)
      clear hb
      clear HN1
      clear YV
      clear HM
      obtain ⟨p0, p1, p2, p3, p4, p5⟩ := (VX.out.on S.out.below).box
      go_wp2_with fail
      refine (HSk.out _ _ (VX.out.on S.out.below).at_).mono ?_
      rintro e u9 he
      obtain ⟨xx, rfl, ho⟩ := he.out
      obtain ⟨L18, s18, A18, n18, c18, F18, m18, k18, rfl⟩ := ho.at_.form
      obtain ⟨fs2, om, hh⟩ := ho.held
      clear p0 p1 p2 p3 p4 p5
      clear he HSk
      obtain ⟨fs3, hfs, S2⟩ : ∃ F, F = fs2 ++ fs ∧ Own u1 u9 [Nf.eNfa gy [.int .i64 L14, .int .i64 s14, .slice A14 n14 c14, .slice M14 b14 d14, .slice F14 m14 k14], eDfa gx [.int .i64 0, .int .i64 0, .slice none 0 0, .slice none 0 0], Nf.eNfa gm [.int .i64 L12, .int .i64 s12, .slice A12 n12 c12, .slice M12 b12 d12, .slice F12 m12 k12]] F := ⟨_, rfl, (by have h := S.out.join om; simpa only [List.nil_append] using h)⟩
      replace S := Lib.hid S2
      have HX := Lib.hid (hh.more (fun e he => by rw [hfs]; exact List.mem_append_left _ he : ∀ e ∈ fs2, e ∈ fs3))
      clear hh om S2 hfs
      clear fs2 fs
      skip
      obtain ⟨fs, hfs⟩ : ∃ F, F = fs3 := ⟨_, rfl⟩
      rw [← hfs] at S HX
      clear hfs
      clear fs3
      obtain ⟨p0, p1, p2, p3, p4, p5⟩ := (VX.out.on S.out.below).box
      obtain ⟨gx_0, gxf_0⟩ := Own.dcell S.out (g := gx) (l := [.int .i64 0, .int .i64 0, .slice none 0 0, .slice none 0 0]) (j := 0) (by simp) rfl
      obtain ⟨gx_1, gxf_1⟩ := Own.dcell S.out (g := gx) (l := [.int .i64 0, .int .i64 0, .slice none 0 0, .slice none 0 0]) (j := 1) (by simp) rfl
      obtain ⟨gx_2, gxf_2⟩ := Own.dcell S.out (g := gx) (l := [.int .i64 0, .int .i64 0, .slice none 0 0, .slice none 0 0]) (j := 2) (by simp) rfl
      obtain ⟨gx_3, gxf_3⟩ := Own.dcell S.out (g := gx) (l := [.int .i64 0, .int .i64 0, .slice none 0 0, .slice none 0 0]) (j := 3) (by simp) rfl
      obtain ⟨u10, hw⟩ : ∃ W, W = ((((u9.setCell ⟨gx, 0, none⟩ (.int .i64 L18)).setCell ⟨gx, 1, none⟩ (.int .i64 s18)).setCell ⟨gx, 2, none⟩ (.slice A18 n18 c18)).setCell ⟨gx, 3, none⟩ (.slice F18 m18 k18)) := ⟨_, rfl⟩
      have S2 := ((((S.out.re [1, 0, 2] 3 rfl (by decide)).dset 0 (.int .i64 L18)).dset 1 (.int .i64 s18)).dset 2 (.slice A18 n18 c18)).dset 3 (.slice F18 m18 k18)
      rw [← hw] at S2
      replace S : Hid (Own u1 u10 [Nf.eNfa gy [.int .i64 L14, .int .i64 s14, .slice A14 n14 c14, .slice M14 b14 d14, .slice F14 m14 k14], eDfa gx [.int .i64 L18, .int .i64 s18, .slice A18 n18 c18, .slice F18 m18 k18], Nf.eNfa gm [.int .i64 L12, .int .i64 s12, .slice A12 n12 c12, .slice M12 b12 d12, .slice F12 m12 k12]] fs) := S2.re [1, 0, 2] 3 rfl (by decide)
      have HW9 := Lib.hid hw
      clear hw S2
      go_wp2_with fail
      rw [← HW9.out]
      clear HW9
      refine (HMk.out _ _ (VX.out.on S.out.below).at_).mono ?_
      rintro e u11 ⟨L20, s20, A20, n20, c20, F20, m20, k20, rfl, hd, hb⟩
      clear p0 p1 p2 p3 p4 p5 gx_0 gxf_0 gx_1 gxf_1 gx_2 gxf_2 gx_3 gxf_3
      replace S := Lib.hid (S.out.on hb)
      clear hb HMk
      obtain ⟨u12, hw, hbz, ZV⟩ := var_new u11 hd.out
      have ZV := Lib.hid ZV
      replace S := Lib.hid (S.out.on hbz)
      have HW11 := Lib.hid hw
      clear hbz hw hd
      go_wp2_with fail
      rw [← HW11.out]
      clear HW11
      refine (HE2.out _ (B.out.trans (S.out.below.mono B.out.size))).mono ?_
      rintro e u13 ⟨rfl, hb⟩
      replace S := Lib.hid (S.out.on hb)
      replace ZV := Lib.hid (ZV.out.on hb)
      clear hb
      clear HE2
      obtain ⟨z0, z1, z2, z3, z4⟩ := ZV.out.box
      obtain ⟨gx_0, gxf_0⟩ := Own.dcell S.out (g := gx) (l := [.int .i64 L18, .int .i64 s18, .slice A18 n18 c18, .slice F18 m18 k18]) (j := 0) (by simp) rfl
      obtain ⟨gx_1, gxf_1⟩ := Own.dcell S.out (g := gx) (l := [.int .i64 L18, .int .i64 s18, .slice A18 n18 c18, .slice F18 m18 k18]) (j := 1) (by simp) rfl
      obtain ⟨gx_2, gxf_2⟩ := Own.dcell S.out (g := gx) (l := [.int .i64 L18, .int .i64 s18, .slice A18 n18 c18, .slice F18 m18 k18]) (j := 2) (by simp) rfl
      obtain ⟨gx_3, gxf_3⟩ := Own.dcell S.out (g := gx) (l := [.int .i64 L18, .int .i64 s18, .slice A18 n18 c18, .slice F18 m18 k18]) (j := 3) (by simp) rfl
      go_wp2_with fail
      refine (HS2.out _ _ _ ZV.out.at_ (HX.out.at_ S.out)).mono ?_
      rintro e u14 ⟨rfl, hb⟩
      clear z0 z1 z2 z3 z4 gx_0 gxf_0 gx_1 gxf_1 gx_2 gxf_2 gx_3 gxf_3
      replace S := Lib.hid (S.out.on hb)
      clear hb
      clear HS2
      clear ZV
      clear HX
      obtain ⟨q0, q1, q2, q3, q4⟩ := (VD.out.on S.out.below).box
      go_wp2_with fail
      refine (HRd.out _ _ (VD.out.on S.out.below).at_).mono ?_
      rintro e u15 ⟨rfl, hb⟩
      clear q0 q1 q2 q3 q4
      replace S := Lib.hid (S.out.on hb)
      clear hb
      clear HRd
      obtain ⟨q0, q1, q2, q3, q4⟩ := (VD.out.on S.out.below).box
      obtain ⟨gm_0, gmf_0⟩ := Nf.ncell S.out (g := gm) (l := [.int .i64 L12, .int .i64 s12, .slice A12 n12 c12, .slice M12 b12 d12, .slice F12 m12 k12]) (j := 0) (by simp) rfl
      obtain ⟨gm_1, gmf_1⟩ := Nf.ncell S.out (g := gm) (l := [.int .i64 L12, .int .i64 s12, .slice A12 n12 c12, .slice M12 b12 d12, .slice F12 m12 k12]) (j := 1) (by simp) rfl
      obtain ⟨gm_2, gmf_2⟩ := Nf.ncell S.out (g := gm) (l := [.int .i64 L12, .int .i64 s12, .slice A12 n12 c12, .slice M12 b12 d12, .slice F12 m12 k12]) (j := 2) (by simp) rfl
      obtain ⟨gm_3, gmf_3⟩ := Nf.ncell S.out (g := gm) (l := [.int .i64 L12, .int .i64 s12, .slice A12 n12 c12, .slice M12 b12 d12, .slice F12 m12 k12]) (j := 3) (by simp) rfl
      obtain ⟨gm_4, gmf_4⟩ := Nf.ncell S.out (g := gm) (l := [.int .i64 L12, .int .i64 s12, .slice A12 n12 c12, .slice M12 b12 d12, .slice F12 m12 k12]) (j := 4) (by simp) rfl
      obtain ⟨u16, hw⟩ : ∃ W, W = (((((u15.setCell ⟨gm, 0, none⟩ (.int .i64 0)).setCell ⟨gm, 1, none⟩ (.int .i64 0)).setCell ⟨gm, 2, none⟩ (.slice none 0 0)).setCell ⟨gm, 3, none⟩ (.slice none 0 0)).setCell ⟨gm, 4, none⟩ (.slice none 0 0)) := ⟨_, rfl⟩
      have S2 := (Nf.into5 (S.out.re [2, 0, 1] 3 rfl (by decide)) rfl (.int .i64 0) (.int .i64 0) (.slice none 0 0) (.slice none 0 0) (.slice none 0 0) hw).1
      replace S : Hid (Own u1 u16 [Nf.eNfa gy [.int .i64 L14, .int .i64 s14, .slice A14 n14 c14, .slice M14 b14 d14, .slice F14 m14 k14], eDfa gx [.int .i64 L18, .int .i64 s18, .slice A18 n18 c18, .slice F18 m18 k18], Nf.eNfa gm [.int .i64 0, .int .i64 0, .slice none 0 0, .slice none 0 0, .slice none 0 0]] fs) := S2.re [1, 2, 0] 3 rfl (by decide)
      have HW15 := Lib.hid hw
      clear hw S2
      go_wp2_with fail
      rw [← HW15.out]
      clear HW15
      refine (HSo.out _ _ (VD.out.on S.out.below).at_).mono ?_
      rintro e u17 ⟨he, _⟩
      obtain ⟨xx, rfl, ho⟩ := he.out
      obtain ⟨L26, s26, A26, n26, c26, M26, b26, d26, F26, m26, k26, rfl⟩ := ho.at_.form
      obtain ⟨fs2, om, hh⟩ := ho
      clear q0 q1 q2 q3 q4 gm_0 gmf_0 gm_1 gmf_1 gm_2 gmf_2 gm_3 gmf_3 gm_4 gmf_4
      clear he HSo
      obtain ⟨fs3, hfs, S2⟩ : ∃ F, F = fs2 ++ fs ∧ Own u1 u17 [Nf.eNfa gy [.int .i64 L14, .int .i64 s14, .slice A14 n14 c14, .slice M14 b14 d14, .slice F14 m14 k14], eDfa gx [.int .i64 L18, .int .i64 s18, .slice A18 n18 c18, .slice F18 m18 k18], Nf.eNfa gm [.int .i64 0, .int .i64 0, .slice none 0 0, .slice none 0 0, .slice none 0 0]] F := ⟨_, rfl, (by have h := S.out.join om; simpa only [List.nil_append] using h)⟩
      replace S := Lib.hid S2
      have HN := Lib.hid (hh.more (fun e he => by rw [hfs]; exact List.mem_append_left _ he : ∀ e ∈ fs2, e ∈ fs3))
      clear hh om S2 hfs
      clear fs2 fs
      skip
      obtain ⟨fs, hfs⟩ : ∃ F, F = fs3 := ⟨_, rfl⟩
      rw [← hfs] at S HN
      clear hfs
      clear fs3
      obtain ⟨q0, q1, q2, q3, q4⟩ := (VD.out.on S.out.below).box
      obtain ⟨gm_0, gmf_0⟩ := Nf.ncell S.out (g := gm) (l := [.int .i64 0, .int .i64 0, .slice none 0 0, .slice none 0 0, .slice none 0 0]) (j := 0) (by simp) rfl
      obtain ⟨gm_1, gmf_1⟩ := Nf.ncell S.out (g := gm) (l := [.int .i64 0, .int .i64 0, .slice none 0 0, .slice none 0 0, .slice none 0 0]) (j := 1) (by simp) rfl
      obtain ⟨gm_2, gmf_2⟩ := Nf.ncell S.out (g := gm) (l := [.int .i64 0, .int .i64 0, .slice none 0 0, .slice none 0 0, .slice none 0 0]) (j := 2) (by simp) rfl
      obtain ⟨gm_3, gmf_3⟩ := Nf.ncell S.out (g := gm) (l := [.int .i64 0, .int .i64 0, .slice none 0 0, .slice none 0 0, .slice none 0 0]) (j := 3) (by simp) rfl
      obtain ⟨gm_4, gmf_4⟩ := Nf.ncell S.out (g := gm) (l := [.int .i64 0, .int .i64 0, .slice none 0 0, .slice none 0 0, .slice none 0 0]) (j := 4) (by simp) rfl
      obtain ⟨u18, hw⟩ : ∃ W, W = (((((u17.setCell ⟨gm, 0, none⟩ (.int .i64 L26)).setCell ⟨gm, 1, none⟩ (.int .i64 s26)).setCell ⟨gm, 2, none⟩ (.slice A26 n26 c26)).setCell ⟨gm, 3, none⟩ (.slice M26 b26 d26)).setCell ⟨gm, 4, none⟩ (.slice F26 m26 k26)) := ⟨_, rfl⟩
      have S2 := (Nf.into5 (S.out.re [2, 0, 1] 3 rfl (by decide)) rfl (.int .i64 L26) (.int .i64 s26) (.slice A26 n26 c26) (.slice M26 b26 d26) (.slice F26 m26 k26) hw).1
      replace S : Hid (Own u1 u18 [Nf.eNfa gy [.int .i64 L14, .int .i64 s14, .slice A14 n14 c14, .slice M14 b14 d14, .slice F14 m14 k14], eDfa gx [.int .i64 L18, .int .i64 s18, .slice A18 n18 c18, .slice F18 m18 k18], Nf.eNfa gm [.int .i64 L26, .int .i64 s26, .slice A26 n26 c26, .slice M26 b26 d26, .slice F26 m26 k26]] fs) := S2.re [1, 2, 0] 3 rfl (by decide)
      have HW17 := Lib.hid hw
      clear hw S2
      go_wp2_with fail
      rw [← HW17.out]
      clear HW17
      refine (HPo.out _ _ (VD.out.on S.out.below).at_).mono ?_
      rintro e u19 ⟨he, _⟩
      obtain ⟨xx, rfl, ho⟩ := he.out
      obtain ⟨L28, s28, A28, n28, c28, M28, b28, d28, F28, m28, k28, rfl⟩ := ho.at_.form
      obtain ⟨fs2, om, hh⟩ := ho
      clear q0 q1 q2 q3 q4 gm_0 gmf_0 gm_1 gmf_1 gm_2 gmf_2 gm_3 gmf_3 gm_4 gmf_4
      clear he HPo
      obtain ⟨fs3, hfs, S2⟩ : ∃ F, F = fs2 ++ fs ∧ Own u1 u19 [Nf.eNfa gy [.int .i64 L14, .int .i64 s14, .slice A14 n14 c14, .slice M14 b14 d14, .slice F14 m14 k14], eDfa gx [.int .i64 L18, .int .i64 s18, .slice A18 n18 c18, .slice F18 m18 k18], Nf.eNfa gm [.int .i64 L26, .int .i64 s26, .slice A26 n26 c26, .slice M26 b26 d26, .slice F26 m26 k26]] F := ⟨_, rfl, (by have h := S.out.join om; simpa only [List.nil_append] using h)⟩
      replace S := Lib.hid S2
      replace HN := Lib.hid (HN.out.more (fun e he => by rw [hfs]; exact List.mem_append_right _ he : ∀ e ∈ fs, e ∈ fs3))
      have HY := Lib.hid (hh.more (fun e he => by rw [hfs]; exact List.mem_append_left _ he : ∀ e ∈ fs2, e ∈ fs3))
      clear hh om S2 hfs
      clear fs2 fs
      skip
      obtain ⟨fs, hfs⟩ : ∃ F, F = fs3 := ⟨_, rfl⟩
      rw [← hfs] at S HN HY
      clear hfs
      clear fs3
      obtain ⟨gy_0, gyf_0⟩ := Nf.ncell S.out (g := gy) (l := [.int .i64 L14, .int .i64 s14, .slice A14 n14 c14, .slice M14 b14 d14, .slice F14 m14 k14]) (j := 0) (by simp) rfl
      obtain ⟨gy_1, gyf_1⟩ := Nf.ncell S.out (g := gy) (l := [.int .i64 L14, .int .i64 s14, .slice A14 n14 c14, .slice M14 b14 d14, .slice F14 m14 k14]) (j := 1) (by simp) rfl
      obtain ⟨gy_2, gyf_2⟩ := Nf.ncell S.out (g := gy) (l := [.int .i64 L14, .int .i64 s14, .slice A14 n14 c14, .slice M14 b14 d14, .slice F14 m14 k14]) (j := 2) (by simp) rfl
      obtain ⟨gy_3, gyf_3⟩ := Nf.ncell S.out (g := gy) (l := [.int .i64 L14, .int .i64 s14, .slice A14 n14 c14, .slice M14 b14 d14, .slice F14 m14 k14]) (j := 3) (by simp) rfl
      obtain ⟨gy_4, gyf_4⟩ := Nf.ncell S.out (g := gy) (l := [.int .i64 L14, .int .i64 s14, .slice A14 n14 c14, .slice M14 b14 d14, .slice F14 m14 k14]) (j := 4) (by simp) rfl
      obtain ⟨u20, hw⟩ : ∃ W, W = (((((u19.setCell ⟨gy, 0, none⟩ (.int .i64 L28)).setCell ⟨gy, 1, none⟩ (.int .i64 s28)).setCell ⟨gy, 2, none⟩ (.slice A28 n28 c28)).setCell ⟨gy, 3, none⟩ (.slice M28 b28 d28)).setCell ⟨gy, 4, none⟩ (.slice F28 m28 k28)) := ⟨_, rfl⟩
      have S2 := (Nf.into5 (S.out.re [0, 1, 2] 3 rfl (by decide)) rfl (.int .i64 L28) (.int .i64 s28) (.slice A28 n28 c28) (.slice M28 b28 d28) (.slice F28 m28 k28) hw).1
      replace S : Hid (Own u1 u20 [Nf.eNfa gy [.int .i64 L28, .int .i64 s28, .slice A28 n28 c28, .slice M28 b28 d28, .slice F28 m28 k28], eDfa gx [.int .i64 L18, .int .i64 s18, .slice A18 n18 c18, .slice F18 m18 k18], Nf.eNfa gm [.int .i64 L26, .int .i64 s26, .slice A26 n26 c26, .slice M26 b26 d26, .slice F26 m26 k26]] fs) := S2.re [0, 1, 2] 3 rfl (by decide)
      have HW19 := Lib.hid hw
      clear hw S2
      go_wp2_with fail
      rw [← HW19.out]
      clear HW19
      refine (HE3.out _ (B.out.trans (S.out.below.mono B.out.size))).mono ?_
      rintro e u21 ⟨rfl, hb⟩
      clear gy_0 gyf_0 gy_1 gyf_1 gy_2 gyf_2 gy_3 gyf_3 gy_4 gyf_4
      replace S := Lib.hid (S.out.on hb)
      clear hb
      clear HE3
      obtain ⟨gy_0, gyf_0⟩ := Nf.ncell S.out (g := gy) (l := [.int .i64 L28, .int .i64 s28, .slice A28 n28 c28, .slice M28 b28 d28, .slice F28 m28 k28]) (j := 0) (by simp) rfl
      obtain ⟨gy_1, gyf_1⟩ := Nf.ncell S.out (g := gy) (l := [.int .i64 L28, .int .i64 s28, .slice A28 n28 c28, .slice M28 b28 d28, .slice F28 m28 k28]) (j := 1) (by simp) rfl
      obtain ⟨gy_2, gyf_2⟩ := Nf.ncell S.out (g := gy) (l := [.int .i64 L28, .int .i64 s28, .slice A28 n28 c28, .slice M28 b28 d28, .slice F28 m28 k28]) (j := 2) (by simp) rfl
      obtain ⟨gy_3, gyf_3⟩ := Nf.ncell S.out (g := gy) (l := [.int .i64 L28, .int .i64 s28, .slice A28 n28 c28, .slice M28 b28 d28, .slice F28 m28 k28]) (j := 3) (by simp) rfl
      obtain ⟨gy_4, gyf_4⟩ := Nf.ncell S.out (g := gy) (l := [.int .i64 L28, .int .i64 s28, .slice A28 n28 c28, .slice M28 b28 d28, .slice F28 m28 k28]) (j := 4) (by simp) rfl
      obtain ⟨gm_0, gmf_0⟩ := Nf.ncell S.out (g := gm) (l := [.int .i64 L26, .int .i64 s26, .slice A26 n26 c26, .slice M26 b26 d26, .slice F26 m26 k26]) (j := 0) (by simp) rfl
      obtain ⟨gm_1, gmf_1⟩ := Nf.ncell S.out (g := gm) (l := [.int .i64 L26, .int .i64 s26, .slice A26 n26 c26, .slice M26 b26 d26, .slice F26 m26 k26]) (j := 1) (by simp) rfl
      obtain ⟨gm_2, gmf_2⟩ := Nf.ncell S.out (g := gm) (l := [.int .i64 L26, .int .i64 s26, .slice A26 n26 c26, .slice M26 b26 d26, .slice F26 m26 k26]) (j := 2) (by simp) rfl
      obtain ⟨gm_3, gmf_3⟩ := Nf.ncell S.out (g := gm) (l := [.int .i64 L26, .int .i64 s26, .slice A26 n26 c26, .slice M26 b26 d26, .slice F26 m26 k26]) (j := 3) (by simp) rfl
      obtain ⟨gm_4, gmf_4⟩ := Nf.ncell S.out (g := gm) (l := [.int .i64 L26, .int .i64 s26, .slice A26 n26 c26, .slice M26 b26 d26, .slice F26 m26 k26]) (j := 4) (by simp) rfl
      go_wp2_with fail
      refine (HN3.out _ _ _ (HY.out.at_ S.out) (HN.out.at_ S.out)).mono ?_
      rintro e u22 ⟨rfl, hb⟩
      clear gy_0 gyf_0 gy_1 gyf_1 gy_2 gyf_2 gy_3 gyf_3 gy_4 gyf_4 gm_0 gmf_0 gm_1 gmf_1 gm_2 gmf_2 gm_3 gmf_3 gm_4 gmf_4
      replace S := Lib.hid (S.out.on hb)
      clear hb
      clear HN3
      have HB := Lib.hid (B.out.trans (S.out.below.mono B.out.size))
      clear S
      go_wp2
      go_ret
      exact ⟨rfl, HB.out⟩
    · obtain ⟨Q, hQ⟩ : ∃ K : Int, ((x1 + 1 : Nat) : Int) = K := ⟨_, rfl⟩
      have hQ0 : ¬ Q = 0 := by omega
      have hQ1 : (Q == 0) = false := by simp [hQ0]
      have hEQ : errV (x1 + 1) = errI Q := by rw [← hQ]; rfl
      have HRd := Lib.hid (fun W v (h : DfaAt W W.heap.size v d1) => rdfa_gives (K := Q) h (by rw [g2, hQ]))
      have HPo := Lib.hid (fun W v (h : DfaAt W W.heap.size v d1) => Nf.of_any v d1 W h)
      rw [Nf.ofOut_bad (by omega)] at HPo
      rw [g2, hEQ] at HPo
      simp only at HPo
      have HE3 := Lib.hid (fun W (hb : Below w.heap.size w W) => says_gives hg (x1 + 1) (E := errI Q) (K := Q) hEQ hQ W hb)
      have HN3 := Lib.hid (fun W v z (h : Nf.NfaAt W W.heap.size v Nf.zeroN) (h2 : Nf.NfaAt W W.heap.size z Nf.zeroN) => Nf.sameN_any v z Nf.zeroN W h h2 Nf.liteN_zero)
      clear g2 hQ hEQ
      clear x1
      clear hg
      go_enter Tryd.func3, Tryd.ntmps3
      obtain ⟨p0, p1, p2, p3, p4, p5⟩ := VX.out.box
      go_wp2_with fail
      rw [← W0.out]
      clear W0
      refine (HD.out _ _ VX.out.at_).mono ?_
      rintro e u1 ⟨rfl, hb⟩
      have hsz1 := hb.size
      have HSZ : Hid (w.heap.size + 1 + 1 ≤ u1.heap.size) := by rw [Hid, ← hsz]; exact hsz1
      have VX := Lib.hid (VX.out.on hb)
      have VD := Lib.hid (VD.out.on hb)
      have B := Lib.hid (B.out.trans (hb.mono B.out.size))
      clear hb HD p0 p1 p2 p3 p4 p5
      have O1 := (Nf.own_nfa_new (own_start u1) (.int .i64 0) (.int .i64 0) (.slice none 0 0) (.slice none 0 0) (.slice none 0 0)).dfa (.int .i64 0) (.int .i64 0) (.slice none 0 0) (.slice none 0 0)
      rw [show (u1.alloc (.cells #[.int .i64 0, .int .i64 0, .slice none 0 0, .slice none 0 0, .slice none 0 0] 25)).heap.size = u1.heap.size + 1 by simp] at O1
      obtain ⟨uz, huz⟩ : ∃ W, W = (u1.alloc (.cells #[.int .i64 0, .int .i64 0, .slice none 0 0, .slice none 0 0, .slice none 0 0] 25)).alloc (.cells #[.int .i64 0, .int .i64 0, .slice none 0 0, .slice none 0 0] 29) := ⟨_, rfl⟩
      rw [← huz] at O1
      have HUZ := Lib.hid huz
      clear huz
      generalize hgm : u1.heap.size = gm at *
      have hm1 : w.heap.size ≠ gm := by omega
      have hm2 : w.heap.size + 1 ≠ gm := by omega
      have hm3 := hm1.symm
      have hm4 := hm2.symm
      have hx1 : w.heap.size ≠ gm + 1 := by omega
      have hx2 : w.heap.size + 1 ≠ gm + 1 := by omega
      have hx3 := hx1.symm
      have hx4 := hx2.symm
      have hmx : gm ≠ gm + 1 := by omega
      have hxm := hmx.symm
      obtain ⟨gx, hgx⟩ : ∃ g, g = gm + 1 := ⟨_, rfl⟩
      rw [← hgx] at O1 hx1 hx2 hx3 hx4 hmx hxm
      obtain ⟨fs, S⟩ : ∃ fs, Hid (Own u1 uz [eDfa gx [.int .i64 0, .int .i64 0, .slice none 0 0, .slice none 0 0], Nf.eNfa gm [.int .i64 0, .int .i64 0, .slice none 0 0, .slice none 0 0, .slice none 0 0]] fs) := ⟨[], O1⟩
      clear O1 hsz1 hsz
      have HGm := Lib.hid hgm
      have HGe := Lib.hid hgm
      have HGx := Lib.hid hgx
      clear hgm hgx
      obtain ⟨p0, p1, p2, p3, p4, p5⟩ := VX.out.box
      go_wp2_with fail
      rw [← HUZ.out, HGm.out, ← HGx.out]
      clear HUZ HGm HGx
      refine (HSm.out _ _ (VX.out.on S.out.below).at_).mono ?_
      rintro e u3 ⟨he, _⟩
      obtain ⟨xx, rfl, ho⟩ := he.out
      obtain ⟨L12, s12, A12, n12, c12, M12, b12, d12, F12, m12, k12, rfl⟩ := ho.at_.form
      obtain ⟨fs2, om, hh⟩ := ho
      clear p0 p1 p2 p3 p4 p5
      clear he HSm
      obtain ⟨fs3, hfs, S2⟩ : ∃ F, F = fs2 ++ fs ∧ Own u1 u3 [eDfa gx [.int .i64 0, .int .i64 0, .slice none 0 0, .slice none 0 0], Nf.eNfa gm [.int .i64 0, .int .i64 0, .slice none 0 0, .slice none 0 0, .slice none 0 0]] F := ⟨_, rfl, (by have h := S.out.join om; simpa only [List.nil_append] using h)⟩
      replace S := Lib.hid S2
      have HM := Lib.hid (hh.more (fun e he => by rw [hfs]; exact List.mem_append_left _ he : ∀ e ∈ fs2, e ∈ fs3))
      clear hh om S2 hfs
      clear fs2 fs
      skip
      obtain ⟨fs, hfs⟩ : ∃ F, F = fs3 := ⟨_, rfl⟩
      rw [← hfs] at S HM
      clear hfs
      clear fs3
      obtain ⟨p0, p1, p2, p3, p4, p5⟩ := (VX.out.on S.out.below).box
      obtain ⟨gm_0, gmf_0⟩ := Nf.ncell S.out (g := gm) (l := [.int .i64 0, .int .i64 0, .slice none 0 0, .slice none 0 0, .slice none 0 0]) (j := 0) (by simp) rfl
      obtain ⟨gm_1, gmf_1⟩ := Nf.ncell S.out (g := gm) (l := [.int .i64 0, .int .i64 0, .slice none 0 0, .slice none 0 0, .slice none 0 0]) (j := 1) (by simp) rfl
      obtain ⟨gm_2, gmf_2⟩ := Nf.ncell S.out (g := gm) (l := [.int .i64 0, .int .i64 0, .slice none 0 0, .slice none 0 0, .slice none 0 0]) (j := 2) (by simp) rfl
      obtain ⟨gm_3, gmf_3⟩ := Nf.ncell S.out (g := gm) (l := [.int .i64 0, .int .i64 0, .slice none 0 0, .slice none 0 0, .slice none 0 0]) (j := 3) (by simp) rfl
      obtain ⟨gm_4, gmf_4⟩ := Nf.ncell S.out (g := gm) (l := [.int .i64 0, .int .i64 0, .slice none 0 0, .slice none 0 0, .slice none 0 0]) (j := 4) (by simp) rfl
      obtain ⟨u4, hw⟩ : ∃ W, W = (((((u3.setCell ⟨gm, 0, none⟩ (.int .i64 L12)).setCell ⟨gm, 1, none⟩ (.int .i64 s12)).setCell ⟨gm, 2, none⟩ (.slice A12 n12 c12)).setCell ⟨gm, 3, none⟩ (.slice M12 b12 d12)).setCell ⟨gm, 4, none⟩ (.slice F12 m12 k12)) := ⟨_, rfl⟩
      have S2 := (Nf.into5 (S.out.re [1, 0] 2 rfl (by decide)) rfl (.int .i64 L12) (.int .i64 s12) (.slice A12 n12 c12) (.slice M12 b12 d12) (.slice F12 m12 k12) hw).1
      replace S : Hid (Own u1 u4 [eDfa gx [.int .i64 0, .int .i64 0, .slice none 0 0, .slice none 0 0], Nf.eNfa gm [.int .i64 L12, .int .i64 s12, .slice A12 n12 c12, .slice M12 b12 d12, .slice F12 m12 k12]] fs) := S2.re [1, 0] 2 rfl (by decide)
      have HW3 := Lib.hid hw
      clear hw S2
      go_wp2_with fail
      rw [← HW3.out]
      clear HW3
      refine (HMi.out _ _ (VX.out.on S.out.below).at_).mono ?_
      rintro e u5 ⟨L14, s14, A14, n14, c14, M14, b14, d14, F14, m14, k14, rfl, hd, hb⟩
      clear p0 p1 p2 p3 p4 p5 gm_0 gmf_0 gm_1 gmf_1 gm_2 gmf_2 gm_3 gmf_3 gm_4 gmf_4
      replace S := Lib.hid (S.out.on hb)
      clear hb HMi
      have S2 := Nf.own_nfa_new S.out (.int .i64 L14) (.int .i64 s14) (.slice A14 n14 c14) (.slice M14 b14 d14) (.slice F14 m14 k14)
      obtain ⟨u6, hw⟩ : ∃ W, W = u5.alloc (.cells #[.int .i64 L14, .int .i64 s14, .slice A14 n14 c14, .slice M14 b14 d14, .slice F14 m14 k14] 25) := ⟨_, rfl⟩
      have YV := Lib.hid (hd.out.on (show Below u5.heap.size u5 u6 by rw [hw]; exact below_alloc _ _))
      rw [← hw] at S2
      obtain ⟨gy, hgy⟩ : ∃ g, g = u5.heap.size := ⟨_, rfl⟩
      rw [← hgy] at S2
      have hym : gy ≠ gm := by have := (S.out.lt (t := 25) (sz := 5) (n := 1) (cap := 1) (ad := ⟨gm, 0, none⟩) (xs := [.int .i64 L12, .int .i64 s12, .slice A12 n12 c12, .slice M12 b12 d12, .slice F12 m12 k12]) (by simp [Nf.eNfa])).2; intro e; rw [hgy] at e; simp only at this; omega
      have hyx : gy ≠ gx := by have := (S.out.lt (t := 29) (sz := 4) (n := 1) (cap := 1) (ad := ⟨gx, 0, none⟩) (xs := [.int .i64 0, .int .i64 0, .slice none 0 0, .slice none 0 0]) (by simp [eDfa])).2; intro e; rw [hgy] at e; simp only at this; omega
      have hgy2 : gm ≤ gy := by rw [hgy, ← HGe.out]; exact S.out.below.size
      have hmy := hym.symm
      have hxy := hyx.symm
      have hy1 : gy ≠ w.heap.size := by intro e; have := HSZ.out; omega
      have hy2 : gy ≠ w.heap.size + 1 := by intro e; have := HSZ.out; omega
      have hy3 := hy1.symm
      have hy4 := hy2.symm
      replace S : Hid (Own u1 u6 [Nf.eNfa gy [.int .i64 L14, .int .i64 s14, .slice A14 n14 c14, .slice M14 b14 d14, .slice F14 m14 k14], eDfa gx [.int .i64 0, .int .i64 0, .slice none 0 0, .slice none 0 0], Nf.eNfa gm [.int .i64 L12, .int .i64 s12, .slice A12 n12 c12, .slice M12 b12 d12, .slice F12 m12 k12]] fs) := S2
      have HWY := Lib.hid hw
      have HGY := Lib.hid hgy
      clear hw S2 hgy hgy2 hd
      go_wp2_with fail
      rw [← HWY.out, ← HGY.out]
      clear HWY HGY
      refine (HE1.out _ (B.out.trans (S.out.below.mono B.out.size))).mono ?_
      rintro e u7 ⟨rfl, hb⟩
      replace S := Lib.hid (S.out.on hb)
      replace YV := Lib.hid (YV.out.on hb)
      clear hb
      clear HE1
      obtain ⟨gy_0, gyf_0⟩ := Nf.ncell S.out (g := gy) (l := [.int .i64 L14, .int .i64 s14, .slice A14 n14 c14, .slice M14 b14 d14, .slice F14 m14 k14]) (j := 0) (by simp) rfl
      obtain ⟨gy_1, gyf_1⟩ := Nf.ncell S.out (g := gy) (l := [.int .i64 L14, .int .i64 s14, .slice A14 n14 c14, .slice M14 b14 d14, .slice F14 m14 k14]) (j := 1) (by simp) rfl
      obtain ⟨gy_2, gyf_2⟩ := Nf.ncell S.out (g := gy) (l := [.int .i64 L14, .int .i64 s14, .slice A14 n14 c14, .slice M14 b14 d14, .slice F14 m14 k14]) (j := 2) (by simp) rfl
      obtain ⟨gy_3, gyf_3⟩ := Nf.ncell S.out (g := gy) (l := [.int .i64 L14, .int .i64 s14, .slice A14 n14 c14, .slice M14 b14 d14, .slice F14 m14 k14]) (j := 3) (by simp) rfl
      obtain ⟨gy_4, gyf_4⟩ := Nf.ncell S.out (g := gy) (l := [.int .i64 L14, .int .i64 s14, .slice A14 n14 c14, .slice M14 b14 d14, .slice F14 m14 k14]) (j := 4) (by simp) rfl
      obtain ⟨gm_0, gmf_0⟩ := Nf.ncell S.out (g := gm) (l := [.int .i64 L12, .int .i64 s12, .slice A12 n12 c12, .slice M12 b12 d12, .slice F12 m12 k12]) (j := 0) (by simp) rfl
      obtain ⟨gm_1, gmf_1⟩ := Nf.ncell S.out (g := gm) (l := [.int .i64 L12, .int .i64 s12, .slice A12 n12 c12, .slice M12 b12 d12, .slice F12 m12 k12]) (j := 1) (by simp) rfl
      obtain ⟨gm_2, gmf_2⟩ := Nf.ncell S.out (g := gm) (l := [.int .i64 L12, .int .i64 s12, .slice A12 n12 c12, .slice M12 b12 d12, .slice F12 m12 k12]) (j := 2) (by simp) rfl
      obtain ⟨gm_3, gmf_3⟩ := Nf.ncell S.out (g := gm) (l := [.int .i64 L12, .int .i64 s12, .slice A12 n12 c12, .slice M12 b12 d12, .slice F12 m12 k12]) (j := 3) (by simp) rfl
      obtain ⟨gm_4, gmf_4⟩ := Nf.ncell S.out (g := gm) (l := [.int .i64 L12, .int .i64 s12, .slice A12 n12 c12, .slice M12 b12 d12, .slice F12 m12 k12]) (j := 4) (by simp) rfl
      go_wp2_with fail
      refine (HN1.out _ _ _ YV.out (HM.out.at_ S.out)).mono ?_
      rintro e u8 ⟨rfl, hb⟩
      clear gy_0 gyf_0 gy_1 gyf_1 gy_2 gyf_2 gy_3 gyf_3 gy_4 gyf_4 gm_0 gmf_0 gm_1 gmf_1 gm_2 gmf_2 gm_3 gmf_3 gm_4 gmf_4
      replace S := Lib.hid (S.out.on hb)
      clear hb
      clear HN1
      clear YV
      clear HM
      obtain ⟨p0, p1, p2, p3, p4, p5⟩ := (VX.out.on S.out.below).box
      go_wp2_with fail
      refine (HSk.out _ _ (VX.out.on S.out.below).at_).mono ?_
      rintro e u9 he
      obtain ⟨xx, rfl, ho⟩ := he.out
      obtain ⟨L18, s18, A18, n18, c18, F18, m18, k18, rfl⟩ := ho.at_.form
      obtain ⟨fs2, om, hh⟩ := ho.held
      clear p0 p1 p2 p3 p4 p5
      clear he HSk
      obtain ⟨fs3, hfs, S2⟩ : ∃ F, F = fs2 ++ fs ∧ Own u1 u9 [Nf.eNfa gy [.int .i64 L14, .int .i64 s14, .slice A14 n14 c14, .slice M14 b14 d14, .slice F14 m14 k14], eDfa gx [.int .i64 0, .int .i64 0, .slice none 0 0, .slice none 0 0], Nf.eNfa gm [.int .i64 L12, .int .i64 s12, .slice A12 n12 c12, .slice M12 b12 d12, .slice F12 m12 k12]] F := ⟨_, rfl, (by have h := S.out.join om; simpa only [List.nil_append] using h)⟩
      replace S := Lib.hid S2
      have HX := Lib.hid (hh.more (fun e he => by rw [hfs]; exact List.mem_append_left _ he : ∀ e ∈ fs2, e ∈ fs3))
      clear hh om S2 hfs
      clear fs2 fs
      skip
      obtain ⟨fs, hfs⟩ : ∃ F, F = fs3 := ⟨_, rfl⟩
      rw [← hfs] at S HX
      clear hfs
      clear fs3
      obtain ⟨p0, p1, p2, p3, p4, p5⟩ := (VX.out.on S.out.below).box
      obtain ⟨gx_0, gxf_0⟩ := Own.dcell S.out (g := gx) (l := [.int .i64 0, .int .i64 0, .slice none 0 0, .slice none 0 0]) (j := 0) (by simp) rfl
      obtain ⟨gx_1, gxf_1⟩ := Own.dcell S.out (g := gx) (l := [.int .i64 0, .int .i64 0, .slice none 0 0, .slice none 0 0]) (j := 1) (by simp) rfl
      obtain ⟨gx_2, gxf_2⟩ := Own.dcell S.out (g := gx) (l := [.int .i64 0, .int .i64 0, .slice none 0 0, .slice none 0 0]) (j := 2) (by simp) rfl
      obtain ⟨gx_3, gxf_3⟩ := Own.dcell S.out (g := gx) (l := [.int .i64 0, .int .i64 0, .slice none 0 0, .slice none 0 0]) (j := 3) (by simp) rfl
      obtain ⟨u10, hw⟩ : ∃ W, W = ((((u9.setCell ⟨gx, 0, none⟩ (.int .i64 L18)).setCell ⟨gx, 1, none⟩ (.int .i64 s18)).setCell ⟨gx, 2, none⟩ (.slice A18 n18 c18)).setCell ⟨gx, 3, none⟩ (.slice F18 m18 k18)) := ⟨_, rfl⟩
      have S2 := ((((S.out.re [1, 0, 2] 3 rfl (by decide)).dset 0 (.int .i64 L18)).dset 1 (.int .i64 s18)).dset 2 (.slice A18 n18 c18)).dset 3 (.slice F18 m18 k18)
      rw [← hw] at S2
      replace S : Hid (Own u1 u10 [Nf.eNfa gy [.int .i64 L14, .int .i64 s14, .slice A14 n14 c14, .slice M14 b14 d14, .slice F14 m14 k14], eDfa gx [.int .i64 L18, .int .i64 s18, .slice A18 n18 c18, .slice F18 m18 k18], Nf.eNfa gm [.int .i64 L12, .int .i64 s12, .slice A12 n12 c12, .slice M12 b12 d12, .slice F12 m12 k12]] fs) := S2.re [1, 0, 2] 3 rfl (by decide)
      have HW9 := Lib.hid hw
      clear hw S2
      go_wp2_with fail
      rw [← HW9.out]
      clear HW9
      refine (HMk.out _ _ (VX.out.on S.out.below).at_).mono ?_
      rintro e u11 ⟨L20, s20, A20, n20, c20, F20, m20, k20, rfl, hd, hb⟩
      clear p0 p1 p2 p3 p4 p5 gx_0 gxf_0 gx_1 gxf_1 gx_2 gxf_2 gx_3 gxf_3
      replace S := Lib.hid (S.out.on hb)
      clear hb HMk
      obtain ⟨u12, hw, hbz, ZV⟩ := var_new u11 hd.out
      have ZV := Lib.hid ZV
      replace S := Lib.hid (S.out.on hbz)
      have HW11 := Lib.hid hw
      clear hbz hw hd
      go_wp2_with fail
      rw [← HW11.out]
      clear HW11
      refine (HE2.out _ (B.out.trans (S.out.below.mono B.out.size))).mono ?_
      rintro e u13 ⟨rfl, hb⟩
      replace S := Lib.hid (S.out.on hb)
      replace ZV := Lib.hid (ZV.out.on hb)
      clear hb
      clear HE2
      obtain ⟨z0, z1, z2, z3, z4⟩ := ZV.out.box
      obtain ⟨gx_0, gxf_0⟩ := Own.dcell S.out (g := gx) (l := [.int .i64 L18, .int .i64 s18, .slice A18 n18 c18, .slice F18 m18 k18]) (j := 0) (by simp) rfl
      obtain ⟨gx_1, gxf_1⟩ := Own.dcell S.out (g := gx) (l := [.int .i64 L18, .int .i64 s18, .slice A18 n18 c18, .slice F18 m18 k18]) (j := 1) (by simp) rfl
      obtain ⟨gx_2, gxf_2⟩ := Own.dcell S.out (g := gx) (l := [.int .i64 L18, .int .i64 s18, .slice A18 n18 c18, .slice F18 m18 k18]) (j := 2) (by simp) rfl
      obtain ⟨gx_3, gxf_3⟩ := Own.dcell S.out (g := gx) (l := [.int .i64 L18, .int .i64 s18, .slice A18 n18 c18, .slice F18 m18 k18]) (j := 3) (by simp) rfl
      go_wp2_with fail
      refine (HS2.out _ _ _ ZV.out.at_ (HX.out.at_ S.out)).mono ?_
      rintro e u14 ⟨rfl, hb⟩
      clear z0 z1 z2 z3 z4 gx_0 gxf_0 gx_1 gxf_1 gx_2 gxf_2 gx_3 gxf_3
      replace S := Lib.hid (S.out.on hb)
      clear hb
      clear HS2
      clear ZV
      clear HX
      obtain ⟨q0, q1, q2, q3, q4⟩ := (VD.out.on S.out.below).box
      go_wp2_with fail
      refine (HRd.out _ _ (VD.out.on S.out.below).at_).mono ?_
      rintro e u15 ⟨rfl, hb⟩
      clear q0 q1 q2 q3 q4
      replace S := Lib.hid (S.out.on hb)
      clear hb
      clear HRd
      obtain ⟨q0, q1, q2, q3, q4⟩ := (VD.out.on S.out.below).box
      obtain ⟨gm_0, gmf_0⟩ := Nf.ncell S.out (g := gm) (l := [.int .i64 L12, .int .i64 s12, .slice A12 n12 c12, .slice M12 b12 d12, .slice F12 m12 k12]) (j := 0) (by simp) rfl
      obtain ⟨gm_1, gmf_1⟩ := Nf.ncell S.out (g := gm) (l := [.int .i64 L12, .int .i64 s12, .slice A12 n12 c12, .slice M12 b12 d12, .slice F12 m12 k12]) (j := 1) (by simp) rfl
      obtain ⟨gm_2, gmf_2⟩ := Nf.ncell S.out (g := gm) (l := [.int .i64 L12, .int .i64 s12, .slice A12 n12 c12, .slice M12 b12 d12, .slice F12 m12 k12]) (j := 2) (by simp) rfl
      obtain ⟨gm_3, gmf_3⟩ := Nf.ncell S.out (g := gm) (l := [.int .i64 L12, .int .i64 s12, .slice A12 n12 c12, .slice M12 b12 d12, .slice F12 m12 k12]) (j := 3) (by simp) rfl
      obtain ⟨gm_4, gmf_4⟩ := Nf.ncell S.out (g := gm) (l := [.int .i64 L12, .int .i64 s12, .slice A12 n12 c12, .slice M12 b12 d12, .slice F12 m12 k12]) (j := 4) (by simp) rfl
      obtain ⟨u16, hw⟩ : ∃ W, W = (((((u15.setCell ⟨gm, 0, none⟩ (.int .i64 0)).setCell ⟨gm, 1, none⟩ (.int .i64 0)).setCell ⟨gm, 2, none⟩ (.slice none 0 0)).setCell ⟨gm, 3, none⟩ (.slice none 0 0)).setCell ⟨gm, 4, none⟩ (.slice none 0 0)) := ⟨_, rfl⟩
      have S2 := (Nf.into5 (S.out.re [2, 0, 1] 3 rfl (by decide)) rfl (.int .i64 0) (.int .i64 0) (.slice none 0 0) (.slice none 0 0) (.slice none 0 0) hw).1
      replace S : Hid (Own u1 u16 [Nf.eNfa gy [.int .i64 L14, .int .i64 s14, .slice A14 n14 c14, .slice M14 b14 d14, .slice F14 m14 k14], eDfa gx [.int .i64 L18, .int .i64 s18, .slice A18 n18 c18, .slice F18 m18 k18], Nf.eNfa gm [.int .i64 0, .int .i64 0, .slice none 0 0, .slice none 0 0, .slice none 0 0]] fs) := S2.re [1, 2, 0] 3 rfl (by decide)
      have HW15 := Lib.hid hw
      clear hw S2
      go_wp2_with fail
      rw [← HW15.out]
      clear HW15
      refine (HPo.out _ _ (VD.out.on S.out.below).at_).mono ?_
      rintro e u17 ⟨he, _⟩
      obtain ⟨xx, rfl, ho⟩ := he.out
      obtain ⟨L26, s26, A26, n26, c26, M26, b26, d26, F26, m26, k26, rfl⟩ := ho.at_.form
      obtain ⟨fs2, om, hh⟩ := ho
      clear q0 q1 q2 q3 q4 gm_0 gmf_0 gm_1 gmf_1 gm_2 gmf_2 gm_3 gmf_3 gm_4 gmf_4
      clear he HPo
      obtain ⟨fs3, hfs, S2⟩ : ∃ F, F = fs2 ++ fs ∧ Own u1 u17 [Nf.eNfa gy [.int .i64 L14, .int .i64 s14, .slice A14 n14 c14, .slice M14 b14 d14, .slice F14 m14 k14], eDfa gx [.int .i64 L18, .int .i64 s18, .slice A18 n18 c18, .slice F18 m18 k18], Nf.eNfa gm [.int .i64 0, .int .i64 0, .slice none 0 0, .slice none 0 0, .slice none 0 0]] F := ⟨_, rfl, (by have h := S.out.join om; simpa only [List.nil_append] using h)⟩
      replace S := Lib.hid S2
      have HY := Lib.hid (hh.more (fun e he => by rw [hfs]; exact List.mem_append_left _ he : ∀ e ∈ fs2, e ∈ fs3))
      clear hh om S2 hfs
      clear fs2 fs
      skip
      obtain ⟨fs, hfs⟩ : ∃ F, F = fs3 := ⟨_, rfl⟩
      rw [← hfs] at S HY
      clear hfs
      clear fs3
      obtain ⟨gy_0, gyf_0⟩ := Nf.ncell S.out (g := gy) (l := [.int .i64 L14, .int .i64 s14, .slice A14 n14 c14, .slice M14 b14 d14, .slice F14 m14 k14]) (j := 0) (by simp) rfl
      obtain ⟨gy_1, gyf_1⟩ := Nf.ncell S.out (g := gy) (l := [.int .i64 L14, .int .i64 s14, .slice A14 n14 c14, .slice M14 b14 d14, .slice F14 m14 k14]) (j := 1) (by simp) rfl
      obtain ⟨gy_2, gyf_2⟩ := Nf.ncell S.out (g := gy) (l := [.int .i64 L14, .int .i64 s14, .slice A14 n14 c14, .slice M14 b14 d14, .slice F14 m14 k14]) (j := 2) (by simp) rfl
      obtain ⟨gy_3, gyf_3⟩ := Nf.ncell S.out (g := gy) (l := [.int .i64 L14, .int .i64 s14, .slice A14 n14 c14, .slice M14 b14 d14, .slice F14 m14 k14]) (j := 3) (by simp) rfl
      obtain ⟨gy_4, gyf_4⟩ := Nf.ncell S.out (g := gy) (l := [.int .i64 L14, .int .i64 s14, .slice A14 n14 c14, .slice M14 b14 d14, .slice F14 m14 k14]) (j := 4) (by simp) rfl
      obtain ⟨u18, hw⟩ : ∃ W, W = (((((u17.setCell ⟨gy, 0, none⟩ (.int .i64 L26)).setCell ⟨gy, 1, none⟩ (.int .i64 s26)).setCell ⟨gy, 2, none⟩ (.slice A26 n26 c26)).setCell ⟨gy, 3, none⟩ (.slice M26 b26 d26)).setCell ⟨gy, 4, none⟩ (.slice F26 m26 k26)) := ⟨_, rfl⟩
      have S2 := (Nf.into5 (S.out.re [0, 1, 2] 3 rfl (by decide)) rfl (.int .i64 L26) (.int .i64 s26) (.slice A26 n26 c26) (.slice M26 b26 d26) (.slice F26 m26 k26) hw).1
      replace S : Hid (Own u1 u18 [Nf.eNfa gy [.int .i64 L26, .int .i64 s26, .slice A26 n26 c26, .slice M26 b26 d26, .slice F26 m26 k26], eDfa gx [.int .i64 L18, .int .i64 s18, .slice A18 n18 c18, .slice F18 m18 k18], Nf.eNfa gm [.int .i64 0, .int .i64 0, .slice none 0 0, .slice none 0 0, .slice none 0 0]] fs) := S2.re [0, 1, 2] 3 rfl (by decide)
      have HW17 := Lib.hid hw
      clear hw S2
      go_wp2_with fail
      rw [← HW17.out]
      clear HW17
      refine (HE3.out _ (B.out.trans (S.out.below.mono B.out.size))).mono ?_
      rintro e u19 ⟨rfl, hb⟩
      clear gy_0 gyf_0 gy_1 gyf_1 gy_2 gyf_2 gy_3 gyf_3 gy_4 gyf_4
      replace S := Lib.hid (S.out.on hb)
      clear hb
      clear HE3
      obtain ⟨gy_0, gyf_0⟩ := Nf.ncell S.out (g := gy) (l := [.int .i64 L26, .int .i64 s26, .slice A26 n26 c26, .slice M26 b26 d26, .slice F26 m26 k26]) (j := 0) (by simp) rfl
      obtain ⟨gy_1, gyf_1⟩ := Nf.ncell S.out (g := gy) (l := [.int .i64 L26, .int .i64 s26, .slice A26 n26 c26, .slice M26 b26 d26, .slice F26 m26 k26]) (j := 1) (by simp) rfl
      obtain ⟨gy_2, gyf_2⟩ := Nf.ncell S.out (g := gy) (l := [.int .i64 L26, .int .i64 s26, .slice A26 n26 c26, .slice M26 b26 d26, .slice F26 m26 k26]) (j := 2) (by simp) rfl
      obtain ⟨gy_3, gyf_3⟩ := Nf.ncell S.out (g := gy) (l := [.int .i64 L26, .int .i64 s26, .slice A26 n26 c26, .slice M26 b26 d26, .slice F26 m26 k26]) (j := 3) (by simp) rfl
      obtain ⟨gy_4, gyf_4⟩ := Nf.ncell S.out (g := gy) (l := [.int .i64 L26, .int .i64 s26, .slice A26 n26 c26, .slice M26 b26 d26, .slice F26 m26 k26]) (j := 4) (by simp) rfl
      obtain ⟨gm_0, gmf_0⟩ := Nf.ncell S.out (g := gm) (l := [.int .i64 0, .int .i64 0, .slice none 0 0, .slice none 0 0, .slice none 0 0]) (j := 0) (by simp) rfl
      obtain ⟨gm_1, gmf_1⟩ := Nf.ncell S.out (g := gm) (l := [.int .i64 0, .int .i64 0, .slice none 0 0, .slice none 0 0, .slice none 0 0]) (j := 1) (by simp) rfl
      obtain ⟨gm_2, gmf_2⟩ := Nf.ncell S.out (g := gm) (l := [.int .i64 0, .int .i64 0, .slice none 0 0, .slice none 0 0, .slice none 0 0]) (j := 2) (by simp) rfl
      obtain ⟨gm_3, gmf_3⟩ := Nf.ncell S.out (g := gm) (l := [.int .i64 0, .int .i64 0, .slice none 0 0, .slice none 0 0, .slice none 0 0]) (j := 3) (by simp) rfl
      obtain ⟨gm_4, gmf_4⟩ := Nf.ncell S.out (g := gm) (l := [.int .i64 0, .int .i64 0, .slice none 0 0, .slice none 0 0, .slice none 0 0]) (j := 4) (by simp) rfl
      go_wp2_with fail
      refine (HN3.out _ _ _ (HY.out.at_ S.out) (Nf.nfaAt_zero _ _)).mono ?_
      rintro e u20 ⟨rfl, hb⟩
      clear gy_0 gyf_0 gy_1 gyf_1 gy_2 gyf_2 gy_3 gyf_3 gy_4 gyf_4 gm_0 gmf_0 gm_1 gmf_1 gm_2 gmf_2 gm_3 gmf_3 gm_4 gmf_4
      replace S := Lib.hid (S.out.on hb)
      clear hb
      clear HN3
      have HB := Lib.hid (B.out.trans (S.out.below.mono B.out.size))
      clear S
      go_wp2
      go_ret
      exact ⟨rfl, HB.out⟩
  · obtain ⟨K, hK⟩ : ∃ K : Int, ((x0 + 1 : Nat) : Int) = K := ⟨_, rfl⟩
    have hK0 : ¬ K = 0 := by omega
    have hK1 : (K == 0) = false := by simp [hK0]
    have hEK : errV (x0 + 1) = errI K := by rw [← hK]; rfl
    have HD := Lib.hid (fun W v (h : Nf.NfaAt W W.heap.size v n0) => rnfa_gives (K := K) h (by rw [g1, hK]))
    have HMi := Lib.hid (fun W v (h : Nf.NfaAt W W.heap.size v n0) => Nf.nmir_gives (E := errI K) h (Nf.mirOut_bad (by omega)) (by rw [g1, hEK]))
    have HE1 := Lib.hid (fun W (hb : Below w.heap.size w W) => says_gives hg (x0 + 1) (E := errI K) (K := K) hEK hK W hb)
    have HN1 := Lib.hid (fun W v z (h : Nf.NfaAt W W.heap.size v Nf.zeroN) (h2 : Nf.NfaAt W W.heap.size z Nf.zeroN) => Nf.sameN_any v z Nf.zeroN W h h2 Nf.liteN_zero)
    have HMk := Lib.hid (fun W v (h : Nf.NfaAt W W.heap.size v n0) => Nf.nmake_gives (E := errI K) h (Nf.makeOut_bad (by omega)) (by rw [g1, hEK]))
    have HE2 := HE1
    have HS2 := Lib.hid (fun W v z (h : DfaAt W W.heap.size v zeroA) (h2 : DfaAt W W.heap.size z zeroA) => same_gives h h2 lite_zero rfl)
    clear g1 hK hEK
    clear x0
    rcases g2 : dchk d1 with _ | x1
    · have Gd := dchk_iff.1 g2
      have HRd := Lib.hid (fun W v (h : DfaAt W W.heap.size v d1) => rdfa_gives (K := 0) h (by rw [g2]; rfl))
      have HSo := Lib.hid (fun W v (h : DfaAt W W.heap.size v d1) => Nf.rof_any v d1 W h Gd)
      have HPo := Lib.hid (fun W v (h : DfaAt W W.heap.size v d1) => Nf.of_any v d1 W h)
      rw [Nf.ofOut_ok g2] at HPo
      have HE3 := Lib.hid (fun W (hb : Below w.heap.size w W) => says_gives hg 0 (E := .nilIface) (K := 0) rfl rfl W hb)
      have HN3 := Lib.hid (fun W v z (h : Nf.NfaAt W W.heap.size v (Nf.ofA d1)) (h2 : Nf.NfaAt W W.heap.size z (Nf.ofA d1)) => Nf.sameN_any v z (Nf.ofA d1) W h h2 (Nf.liteN_good (Nf.of_good Gd)))
      simp only at HPo
      rw [show errV 0 = .nilIface from rfl] at HPo
      clear Gd g2
      generalize Nf.ofA d1 = OO at *
      clear hg
      go_enter Tryd.func3, Tryd.ntmps3
      obtain ⟨p0, p1, p2, p3, p4, p5⟩ := VX.out.box
      go_wp2_with fail
      rw [← W0.out]
      clear W0
      refine (HD.out _ _ VX.out.at_).mono ?_
      rintro e u1 ⟨rfl, hb⟩
      have hsz1 := hb.size
      have HSZ : Hid (w.heap.size + 1 + 1 ≤ u1.heap.size) := by rw [Hid, ← hsz]; exact hsz1
      have VX := Lib.hid (VX.out.on hb)
      have VD := Lib.hid (VD.out.on hb)
      have B := Lib.hid (B.out.trans (hb.mono B.out.size))
      clear hb HD p0 p1 p2 p3 p4 p5
      have O1 := (Nf.own_nfa_new (own_start u1) (.int .i64 0) (.int .i64 0) (.slice none 0 0) (.slice none 0 0) (.slice none 0 0)).dfa (.int .i64 0) (.int .i64 0) (.slice none 0 0) (.slice none 0 0)
      rw [show (u1.alloc (.cells #[.int .i64 0, .int .i64 0, .slice none 0 0, .slice none 0 0, .slice none 0 0] 25)).heap.size = u1.heap.size + 1 by simp] at O1
      obtain ⟨uz, huz⟩ : ∃ W, W = (u1.alloc (.cells #[.int .i64 0, .int .i64 0, .slice none 0 0, .slice none 0 0, .slice none 0 0] 25)).alloc (.cells #[.int .i64 0, .int .i64 0, .slice none 0 0, .slice none 0 0] 29) := ⟨_, rfl⟩
      rw [← huz] at O1
      have HUZ := Lib.hid huz
      clear huz
      generalize hgm : u1.heap.size = gm at *
      have hm1 : w.heap.size ≠ gm := by omega
      have hm2 : w.heap.size + 1 ≠ gm := by omega
      have hm3 := hm1.symm
      have hm4 := hm2.symm
      have hx1 : w.heap.size ≠ gm + 1 := by omega
      have hx2 : w.heap.size + 1 ≠ gm + 1 := by omega
      have hx3 := hx1.symm
      have hx4 := hx2.symm
      have hmx : gm ≠ gm + 1 := by omega
      have hxm := hmx.symm
      obtain ⟨gx, hgx⟩ : ∃ g, g = gm + 1 := ⟨_, rfl⟩
      rw [← hgx] at O1 hx1 hx2 hx3 hx4 hmx hxm
      obtain ⟨fs, S⟩ : ∃ fs, Hid (Own u1 uz [eDfa gx [.int .i64 0, .int .i64 0, .slice none 0 0, .slice none 0 0], Nf.eNfa gm [.int .i64 0, .int .i64 0, .slice none 0 0, .slice none 0 0, .slice none 0 0]] fs) := ⟨[], O1⟩
      clear O1 hsz1 hsz
      have HGm := Lib.hid hgm
      have HGe := Lib.hid hgm
      have HGx := Lib.hid hgx
      clear hgm hgx
      obtain ⟨p0, p1, p2, p3, p4, p5⟩ := VX.out.box
      go_wp2_with fail
      rw [← HUZ.out, HGm.out, ← HGx.out]
      clear HUZ HGm HGx
      refine (HMi.out _ _ (VX.out.on S.out.below).at_).mono ?_
      rintro e u3 ⟨L12, s12, A12, n12, c12, M12, b12, d12, F12, m12, k12, rfl, hd, hb⟩
      clear p0 p1 p2 p3 p4 p5
      replace S := Lib.hid (S.out.on hb)
      clear hb HMi
      have S2 := Nf.own_nfa_new S.out (.int .i64 L12) (.int .i64 s12) (.slice A12 n12 c12) (.slice M12 b12 d12) (.slice F12 m12 k12)
      obtain ⟨u4, hw⟩ : ∃ W, W = u3.alloc (.cells #[.int .i64 L12, .int .i64 s12, .slice A12 n12 c12, .slice M12 b12 d12, .slice F12 m12 k12] 25) := ⟨_, rfl⟩
      have YV := Lib.hid (hd.out.on (show Below u3.heap.size u3 u4 by rw [hw]; exact below_alloc _ _))
      rw [← hw] at S2
      obtain ⟨gy, hgy⟩ : ∃ g, g = u3.heap.size := ⟨_, rfl⟩
      rw [← hgy] at S2
      have hym : gy ≠ gm := by have := (S.out.lt (t := 25) (sz := 5) (n := 1) (cap := 1) (ad := ⟨gm, 0, none⟩) (xs := [.int .i64 0, .int .i64 0, .slice none 0 0, .slice none 0 0, .slice none 0 0]) (by simp [Nf.eNfa])).2; intro e; rw [hgy] at e; simp only at this; omega
      have hyx : gy ≠ gx := by have := (S.out.lt (t := 29) (sz := 4) (n := 1) (cap := 1) (ad := ⟨gx, 0, none⟩) (xs := [.int .i64 0, .int .i64 0, .slice none 0 0, .slice none 0 0]) (by simp [eDfa])).2; intro e; rw [hgy] at e; simp only at this; omega
      have hgy2 : gm ≤ gy := by rw [hgy, ← HGe.out]; exact S.out.below.size
      have hmy := hym.symm
      have hxy := hyx.symm
      have hy1 : gy ≠ w.heap.size := by intro e; have := HSZ.out; omega
      have hy2 : gy ≠ w.heap.size + 1 := by intro e; have := HSZ.out; omega
      have hy3 := hy1.symm
      have hy4 := hy2.symm
      replace S : Hid (Own u1 u4 [Nf.eNfa gy [.int .i64 L12, .int .i64 s12, .slice A12 n12 c12, .slice M12 b12 d12, .slice F12 m12 k12], eDfa gx [.int .i64 0, .int .i64 0, .slice none 0 0, .slice none 0 0], Nf.eNfa gm [.int .i64 0, .int .i64 0, .slice none 0 0, .slice none 0 0, .slice none 0 0]] fs) := S2
      have HWY := Lib.hid hw
      have HGY := Lib.hid hgy
      clear hw S2 hgy hgy2 hd
      go_wp2_with fail
      rw [← HWY.out, ← HGY.out]
      clear HWY HGY
      refine (HE1.out _ (B.out.trans (S.out.below.mono B.out.size))).mono ?_
      rintro e u5 ⟨rfl, hb⟩
      replace S := Lib.hid (S.out.on hb)
      replace YV := Lib.hid (YV.out.on hb)
      clear hb
      clear HE1
      obtain ⟨gy_0, gyf_0⟩ := Nf.ncell S.out (g := gy) (l := [.int .i64 L12, .int .i64 s12, .slice A12 n12 c12, .slice M12 b12 d12, .slice F12 m12 k12]) (j := 0) (by simp) rfl
      obtain ⟨gy_1, gyf_1⟩ := Nf.ncell S.out (g := gy) (l := [.int .i64 L12, .int .i64 s12, .slice A12 n12 c12, .slice M12 b12 d12, .slice F12 m12 k12]) (j := 1) (by simp) rfl
      obtain ⟨gy_2, gyf_2⟩ := Nf.ncell S.out (g := gy) (l := [.int .i64 L12, .int .i64 s12, .slice A12 n12 c12, .slice M12 b12 d12, .slice F12 m12 k12]) (j := 2) (by simp) rfl
      obtain ⟨gy_3, gyf_3⟩ := Nf.ncell S.out (g := gy) (l := [.int .i64 L12, .int .i64 s12, .slice A12 n12 c12, .slice M12 b12 d12, .slice F12 m12 k12]) (j := 3) (by simp) rfl
      obtain ⟨gy_4, gyf_4⟩ := Nf.ncell S.out (g := gy) (l := [.int .i64 L12, .int .i64 s12, .slice A12 n12 c12, .slice M12 b12 d12, .slice F12 m12 k12]) (j := 4) (by simp) rfl
      obtain ⟨gm_0, gmf_0⟩ := Nf.ncell S.out (g := gm) (l := [.int .i64 0, .int .i64 0, .slice none 0 0, .slice none 0 0, .slice none 0 0]) (j := 0) (by simp) rfl
      obtain ⟨gm_1, gmf_1⟩ := Nf.ncell S.out (g := gm) (l := [.int .i64 0, .int .i64 0, .slice none 0 0, .slice none 0 0, .slice none 0 0]) (j := 1) (by simp) rfl
      obtain ⟨gm_2, gmf_2⟩ := Nf.ncell S.out (g := gm) (l := [.int .i64 0, .int .i64 0, .slice none 0 0, .slice none 0 0, .slice none 0 0]) (j := 2) (by simp) rfl
      obtain ⟨gm_3, gmf_3⟩ := Nf.ncell S.out (g := gm) (l := [.int .i64 0, .int .i64 0, .slice none 0 0, .slice none 0 0, .slice none 0 0]) (j := 3) (by simp) rfl
      obtain ⟨gm_4, gmf_4⟩ := Nf.ncell S.out (g := gm) (l := [.int .i64 0, .int .i64 0, .slice none 0 0, .slice none 0 0, .slice none 0 0]) (j := 4) (by simp) rfl
      go_wp2_with fail
      refine (HN1.out _ _ _ YV.out (Nf.nfaAt_zero _ _)).mono ?_
      rintro e u6 ⟨rfl, hb⟩
      clear gy_0 gyf_0 gy_1 gyf_1 gy_2 gyf_2 gy_3 gyf_3 gy_4 gyf_4 gm_0 gmf_0 gm_1 gmf_1 gm_2 gmf_2 gm_3 gmf_3 gm_4 gmf_4
      replace S := Lib.hid (S.out.on hb)
      clear hb
      clear HN1
      clear YV
      obtain ⟨p0, p1, p2, p3, p4, p5⟩ := (VX.out.on S.out.below).box
      go_wp2_with fail
      refine (HMk.out _ _ (VX.out.on S.out.below).at_).mono ?_
      rintro e u7 ⟨L16, s16, A16, n16, c16, F16, m16, k16, rfl, hd, hb⟩
      clear p0 p1 p2 p3 p4 p5
      replace S := Lib.hid (S.out.on hb)
      clear hb HMk
      obtain ⟨u8, hw, hbz, ZV⟩ := var_new u7 hd.out
      have ZV := Lib.hid ZV
      replace S := Lib.hid (S.out.on hbz)
      have HW7 := Lib.hid hw
      clear hbz hw hd
      go_wp2_with fail
      rw [← HW7.out]
      clear HW7
      refine (HE2.out _ (B.out.trans (S.out.below.mono B.out.size))).mono ?_
      rintro e u9 ⟨rfl, hb⟩
      replace S := Lib.hid (S.out.on hb)
      replace ZV := Lib.hid (ZV.out.on hb)
      clear hb
      clear HE2
      obtain ⟨z0, z1, z2, z3, z4⟩ := ZV.out.box
      obtain ⟨gx_0, gxf_0⟩ := Own.dcell S.out (g := gx) (l := [.int .i64 0, .int .i64 0, .slice none 0 0, .slice none 0 0]) (j := 0) (by simp) rfl
      obtain ⟨gx_1, gxf_1⟩ := Own.dcell S.out (g := gx) (l := [.int .i64 0, .int .i64 0, .slice none 0 0, .slice none 0 0]) (j := 1) (by simp) rfl
      obtain ⟨gx_2, gxf_2⟩ := Own.dcell S.out (g := gx) (l := [.int .i64 0, .int .i64 0, .slice none 0 0, .slice none 0 0]) (j := 2) (by simp) rfl
      obtain ⟨gx_3, gxf_3⟩ := Own.dcell S.out (g := gx) (l := [.int .i64 0, .int .i64 0, .slice none 0 0, .slice none 0 0]) (j := 3) (by simp) rfl
      go_wp2_with fail
      refine (HS2.out _ _ _ ZV.out.at_ (dfaAt_zero _ _)).mono ?_
      rintro e u10 ⟨rfl, hb⟩
      clear z0 z1 z2 z3 z4 gx_0 gxf_0 gx_1 gxf_1 gx_2 gxf_2 gx_3 gxf_3
      replace S := Lib.hid (S.out.on hb)
      clear hb
      clear HS2
      clear ZV
      obtain ⟨q0, q1, q2, q3, q4⟩ := (VD.out.on S.out.below).box
      go_wp2_with fail
      refine (HRd.out _ _ (VD.out.on S.out.below).at_).mono ?_
      rintro e u11 ⟨rfl, hb⟩
      clear q0 q1 q2 q3 q4
      replace S := Lib.hid (S.out.on hb)
      clear hb
      clear HRd
      obtain ⟨q0, q1, q2, q3, q4⟩ := (VD.out.on S.out.below).box
      obtain ⟨gm_0, gmf_0⟩ := Nf.ncell S.out (g := gm) (l := [.int .i64 0, .int .i64 0, .slice none 0 0, .slice none 0 0, .slice none 0 0]) (j := 0) (by simp) rfl
      obtain ⟨gm_1, gmf_1⟩ := Nf.ncell S.out (g := gm) (l := [.int .i64 0, .int .i64 0, .slice none 0 0, .slice none 0 0, .slice none 0 0]) (j := 1) (by simp) rfl
      obtain ⟨gm_2, gmf_2⟩ := Nf.ncell S.out (g := gm) (l := [.int .i64 0, .int .i64 0, .slice none 0 0, .slice none 0 0, .slice none 0 0]) (j := 2) (by simp) rfl
      obtain ⟨gm_3, gmf_3⟩ := Nf.ncell S.out (g := gm) (l := [.int .i64 0, .int .i64 0, .slice none 0 0, .slice none 0 0, .slice none 0 0]) (j := 3) (by simp) rfl
      obtain ⟨gm_4, gmf_4⟩ := Nf.ncell S.out (g := gm) (l := [.int .i64 0, .int .i64 0, .slice none 0 0, .slice none 0 0, .slice none 0 0]) (j := 4) (by simp) rfl
      obtain ⟨u12, hw⟩ : ∃ W, W = (((((u11.setCell ⟨gm, 0, none⟩ (.int .i64 0)).setCell ⟨gm, 1, none⟩ (.int .i64 0)).setCell ⟨gm, 2, none⟩ (.slice none 0 0)).setCell ⟨gm, 3, none⟩ (.slice none 0 0)).setCell ⟨gm, 4, none⟩ (.slice none 0 0)) := ⟨_, rfl⟩
      have S2 := (Nf.into5 (S.out.re [2, 0, 1] 3 rfl (by decide)) rfl (.int .i64 0) (.int .i64 0) (.slice none 0 0) (.slice none 0 0) (.slice none 0 0) hw).1
      replace S : Hid (Own u1 u12 [Nf.eNfa gy [.int .i64 L12, .int .i64 s12, .slice A12 n12 c12, .slice M12 b12 d12, .slice F12 m12 k12], eDfa gx [.int .i64 0, .int .i64 0, .slice none 0 0, .slice none 0 0], Nf.eNfa gm [.int .i64 0, .int .i64 0, .slice none 0 0, .slice none 0 0, .slice none 0 0]] fs) := S2.re [1, 2, 0] 3 rfl (by decide)
      have HW11 := Lib.hid hw
      clear hw S2
      go_wp2_with fail
      rw [← HW11.out]
      clear HW11
      refine (HSo.out _ _ (VD.out.on S.out.below).at_).mono ?_
      rintro e u13 ⟨he, _⟩
      obtain ⟨xx, rfl, ho⟩ := he.out
      obtain ⟨L22, s22, A22, n22, c22, M22, b22, d22, F22, m22, k22, rfl⟩ := ho.at_.form
      obtain ⟨fs2, om, hh⟩ := ho
      clear q0 q1 q2 q3 q4 gm_0 gmf_0 gm_1 gmf_1 gm_2 gmf_2 gm_3 gmf_3 gm_4 gmf_4
      clear he HSo
      obtain ⟨fs3, hfs, S2⟩ : ∃ F, F = fs2 ++ fs ∧ Own u1 u13 [Nf.eNfa gy [.int .i64 L12, .int .i64 s12, .slice A12 n12 c12, .slice M12 b12 d12, .slice F12 m12 k12], eDfa gx [.int .i64 0, .int .i64 0, .slice none 0 0, .slice none 0 0], Nf.eNfa gm [.int .i64 0, .int .i64 0, .slice none 0 0, .slice none 0 0, .slice none 0 0]] F := ⟨_, rfl, (by have h := S.out.join om; simpa only [List.nil_append] using h)⟩
      replace S := Lib.hid S2
      have HN := Lib.hid (hh.more (fun e he => by rw [hfs]; exact List.mem_append_left _ he : ∀ e ∈ fs2, e ∈ fs3))
      clear hh om S2 hfs
      clear fs2 fs
      skip
      obtain ⟨fs, hfs⟩ : ∃ F, F = fs3 := ⟨_, rfl⟩
      rw [← hfs] at S HN
      clear hfs
      clear fs3
      obtain ⟨q0, q1, q2, q3, q4⟩ := (VD.out.on S.out.below).box
      obtain ⟨gm_0, gmf_0⟩ := Nf.ncell S.out (g := gm) (l := [.int .i64 0, .int .i64 0, .slice none 0 0, .slice none 0 0, .slice none 0 0]) (j := 0) (by simp) rfl
      obtain ⟨gm_1, gmf_1⟩ := Nf.ncell S.out (g := gm) (l := [.int .i64 0, .int .i64 0, .slice none 0 0, .slice none 0 0, .slice none 0 0]) (j := 1) (by simp) rfl
      obtain ⟨gm_2, gmf_2⟩ := Nf.ncell S.out (g := gm) (l := [.int .i64 0, .int .i64 0, .slice none 0 0, .slice none 0 0, .slice none 0 0]) (j := 2) (by simp) rfl
      obtain ⟨gm_3, gmf_3⟩ := Nf.ncell S.out (g := gm) (l := [.int .i64 0, .int .i64 0, .slice none 0 0, .slice none 0 0, .slice none 0 0]) (j := 3) (by simp) rfl
      obtain ⟨gm_4, gmf_4⟩ := Nf.ncell S.out (g := gm) (l := [.int .i64 0, .int .i64 0, .slice none 0 0, .slice none 0 0, .slice none 0 0]) (j := 4) (by simp) rfl
      obtain ⟨u14, hw⟩ : ∃ W, W = (((((u13.setCell ⟨gm, 0, none⟩ (.int .i64 L22)).setCell ⟨gm, 1, none⟩ (.int .i64 s22)).setCell ⟨gm, 2, none⟩ (.slice A22 n22 c22)).setCell ⟨gm, 3, none⟩ (.slice M22 b22 d22)).setCell ⟨gm, 4, none⟩ (.slice F22 m22 k22)) := ⟨_, rfl⟩
      have S2 := (Nf.into5 (S.out.re [2, 0, 1] 3 rfl (by decide)) rfl (.int .i64 L22) (.int .i64 s22) (.slice A22 n22 c22) (.slice M22 b22 d22) (.slice F22 m22 k22) hw).1
      replace S : Hid (Own u1 u14 [Nf.eNfa gy [.int .i64 L12, .int .i64 s12, .slice A12 n12 c12, .slice M12 b12 d12, .slice F12 m12 k12], eDfa gx [.int .i64 0, .int .i64 0, .slice none 0 0, .slice none 0 0], Nf.eNfa gm [.int .i64 L22, .int .i64 s22, .slice A22 n22 c22, .slice M22 b22 d22, .slice F22 m22 k22]] fs) := S2.re [1, 2, 0] 3 rfl (by decide)
      have HW13 := Lib.hid hw
      clear hw S2
      go_wp2_with fail
      rw [← HW13.out]
      clear HW13
      refine (HPo.out _ _ (VD.out.on S.out.below).at_).mono ?_
      rintro e u15 ⟨he, _⟩
      obtain ⟨xx, rfl, ho⟩ := he.out
      obtain ⟨L24, s24, A24, n24, c24, M24, b24, d24, F24, m24, k24, rfl⟩ := ho.at_.form
      obtain ⟨fs2, om, hh⟩ := ho
      clear q0 q1 q2 q3 q4 gm_0 gmf_0 gm_1 gmf_1 gm_2 gmf_2 gm_3 gmf_3 gm_4 gmf_4
      clear he HPo
      obtain ⟨fs3, hfs, S2⟩ : ∃ F, F = fs2 ++ fs ∧ Own u1 u15 [Nf.eNfa gy [.int .i64 L12, .int .i64 s12, .slice A12 n12 c12, .slice M12 b12 d12, .slice F12 m12 k12], eDfa gx [.int .i64 0, .int .i64 0, .slice none 0 0, .slice none 0 0], Nf.eNfa gm [.int .i64 L22, .int .i64 s22, .slice A22 n22 c22, .slice M22 b22 d22, .slice F22 m22 k22]] F := ⟨_, rfl, (by have h := S.out.join om; simpa only [List.nil_append] using h)⟩
      replace S := Lib.hid S2
      replace HN := Lib.hid (HN.out.more (fun e he => by rw [hfs]; exact List.mem_append_right _ he : ∀ e ∈ fs, e ∈ fs3))
      have HY := Lib.hid (hh.more (fun e he => by rw [hfs]; exact List.mem_append_left _ he : ∀ e ∈ fs2, e ∈ fs3))
      clear hh om S2 hfs
      clear fs2 fs
      skip
      obtain ⟨fs, hfs⟩ : ∃ F, F = fs3 := ⟨_, rfl⟩
      rw [← hfs] at S HN HY
      clear hfs
      clear fs3
      obtain ⟨gy_0, gyf_0⟩ := Nf.ncell S.out (g := gy) (l := [.int .i64 L12, .int .i64 s12, .slice A12 n12 c12, .slice M12 b12 d12, .slice F12 m12 k12]) (j := 0) (by simp) rfl
      obtain ⟨gy_1, gyf_1⟩ := Nf.ncell S.out (g := gy) (l := [.int .i64 L12, .int .i64 s12, .slice A12 n12 c12, .slice M12 b12 d12, .slice F12 m12 k12]) (j := 1) (by simp) rfl
      obtain ⟨gy_2, gyf_2⟩ := Nf.ncell S.out (g := gy) (l := [.int .i64 L12, .int .i64 s12, .slice A12 n12 c12, .slice M12 b12 d12, .slice F12 m12 k12]) (j := 2) (by simp) rfl
      obtain ⟨gy_3, gyf_3⟩ := Nf.ncell S.out (g := gy) (l := [.int .i64 L12, .int .i64 s12, .slice A12 n12 c12, .slice M12 b12 d12, .slice F12 m12 k12]) (j := 3) (by simp) rfl
      obtain ⟨gy_4, gyf_4⟩ := Nf.ncell S.out (g := gy) (l := [.int .i64 L12, .int .i64 s12, .slice A12 n12 c12, .slice M12 b12 d12, .slice F12 m12 k12]) (j := 4) (by simp) rfl
      obtain ⟨u16, hw⟩ : ∃ W, W = (((((u15.setCell ⟨gy, 0, none⟩ (.int .i64 L24)).setCell ⟨gy, 1, none⟩ (.int .i64 s24)).setCell ⟨gy, 2, none⟩ (.slice A24 n24 c24)).setCell ⟨gy, 3, none⟩ (.slice M24 b24 d24)).setCell ⟨gy, 4, none⟩ (.slice F24 m24 k24)) := ⟨_, rfl⟩
      have S2 := (Nf.into5 (S.out.re [0, 1, 2] 3 rfl (by decide)) rfl (.int .i64 L24) (.int .i64 s24) (.slice A24 n24 c24) (.slice M24 b24 d24) (.slice F24 m24 k24) hw).1
      replace S : Hid (Own u1 u16 [Nf.eNfa gy [.int .i64 L24, .int .i64 s24, .slice A24 n24 c24, .slice M24 b24 d24, .slice F24 m24 k24], eDfa gx [.int .i64 0, .int .i64 0, .slice none 0 0, .slice none 0 0], Nf.eNfa gm [.int .i64 L22, .int .i64 s22, .slice A22 n22 c22, .slice M22 b22 d22, .slice F22 m22 k22]] fs) := S2.re [0, 1, 2] 3 rfl (by decide)
      have HW15 := Lib.hid hw
      clear hw S2
      go_wp2_with fail
      rw [← HW15.out]
      clear HW15
      refine (HE3.out _ (B.out.trans (S.out.below.mono B.out.size))).mono ?_
      rintro e u17 ⟨rfl, hb⟩
      clear gy_0 gyf_0 gy_1 gyf_1 gy_2 gyf_2 gy_3 gyf_3 gy_4 gyf_4
      replace S := Lib.hid (S.out.on hb)
      clear hb
      clear HE3
      obtain ⟨gy_0, gyf_0⟩ := Nf.ncell S.out (g := gy) (l := [.int .i64 L24, .int .i64 s24, .slice A24 n24 c24, .slice M24 b24 d24, .slice F24 m24 k24]) (j := 0) (by simp) rfl
      obtain ⟨gy_1, gyf_1⟩ := Nf.ncell S.out (g := gy) (l := [.int .i64 L24, .int .i64 s24, .slice A24 n24 c24, .slice M24 b24 d24, .slice F24 m24 k24]) (j := 1) (by simp) rfl
      obtain ⟨gy_2, gyf_2⟩ := Nf.ncell S.out (g := gy) (l := [.int .i64 L24, .int .i64 s24, .slice A24 n24 c24, .slice M24 b24 d24, .slice F24 m24 k24]) (j := 2) (by simp) rfl
      obtain ⟨gy_3, gyf_3⟩ := Nf.ncell S.out (g := gy) (l := [.int .i64 L24, .int .i64 s24, .slice A24 n24 c24, .slice M24 b24 d24, .slice F24 m24 k24]) (j := 3) (by simp) rfl
      obtain ⟨gy_4, gyf_4⟩ := Nf.ncell S.out (g := gy) (l := [.int .i64 L24, .int .i64 s24, .slice A24 n24 c24, .slice M24 b24 d24, .slice F24 m24 k24]) (j := 4) (by simp) rfl
      obtain ⟨gm_0, gmf_0⟩ := Nf.ncell S.out (g := gm) (l := [.int .i64 L22, .int .i64 s22, .slice A22 n22 c22, .slice M22 b22 d22, .slice F22 m22 k22]) (j := 0) (by simp) rfl
      obtain ⟨gm_1, gmf_1⟩ := Nf.ncell S.out (g := gm) (l := [.int .i64 L22, .int .i64 s22, .slice A22 n22 c22, .slice M22 b22 d22, .slice F22 m22 k22]) (j := 1) (by simp) rfl
      obtain ⟨gm_2, gmf_2⟩ := Nf.ncell S.out (g := gm) (l := [.int .i64 L22, .int .i64 s22, .slice A22 n22 c22, .slice M22 b22 d22, .slice F22 m22 k22]) (j := 2) (by simp) rfl
      obtain ⟨gm_3, gmf_3⟩ := Nf.ncell S.out (g := gm) (l := [.int .i64 L22, .int .i64 s22, .slice A22 n22 c22, .slice M22 b22 d22, .slice F22 m22 k22]) (j := 3) (by simp) rfl
      obtain ⟨gm_4, gmf_4⟩ := Nf.ncell S.out (g := gm) (l := [.int .i64 L22, .int .i64 s22, .slice A22 n22 c22, .slice M22 b22 d22, .slice F22 m22 k22]) (j := 4) (by simp) rfl
      go_wp2_with fail
      refine (HN3.out _ _ _ (HY.out.at_ S.out) (HN.out.at_ S.out)).mono ?_
      rintro e u18 ⟨rfl, hb⟩
      clear gy_0 gyf_0 gy_1 gyf_1 gy_2 gyf_2 gy_3 gyf_3 gy_4 gyf_4 gm_0 gmf_0 gm_1 gmf_1 gm_2 gmf_2 gm_3 gmf_3 gm_4 gmf_4
      replace S := Lib.hid (S.out.on hb)
      clear hb
      clear HN3
      have HB := Lib.hid (B.out.trans (S.out.below.mono B.out.size))
      clear S
      go_wp2
      go_ret
      exact ⟨rfl, HB.out⟩
    · obtain ⟨Q, hQ⟩ : ∃ K : Int, ((x1 + 1 : Nat) : Int) = K := ⟨_, rfl⟩
      have hQ0 : ¬ Q = 0 := by omega
      have hQ1 : (Q == 0) = false := by simp [hQ0]
      have hEQ : errV (x1 + 1) = errI Q := by rw [← hQ]; rfl
      have HRd := Lib.hid (fun W v (h : DfaAt W W.heap.size v d1) => rdfa_gives (K := Q) h (by rw [g2, hQ]))
      have HPo := Lib.hid (fun W v (h : DfaAt W W.heap.size v d1) => Nf.of_any v d1 W h)
      rw [Nf.ofOut_bad (by omega)] at HPo
      rw [g2, hEQ] at HPo
      simp only at HPo
      have HE3 := Lib.hid (fun W (hb : Below w.heap.size w W) => says_gives hg (x1 + 1) (E := errI Q) (K := Q) hEQ hQ W hb)
      have HN3 := Lib.hid (fun W v z (h : Nf.NfaAt W W.heap.size v Nf.zeroN) (h2 : Nf.NfaAt W W.heap.size z Nf.zeroN) => Nf.sameN_any v z Nf.zeroN W h h2 Nf.liteN_zero)
      clear g2 hQ hEQ
      clear x1
      clear hg
      go_enter Tryd.func3, Tryd.ntmps3
      obtain ⟨p0, p1, p2, p3, p4, p5⟩ := VX.out.box
      go_wp2_with fail
      rw [← W0.out]
      clear W0
      refine (HD.out _ _ VX.out.at_).mono ?_
      rintro e u1 ⟨rfl, hb⟩
      have hsz1 := hb.size
      have HSZ : Hid (w.heap.size + 1 + 1 ≤ u1.heap.size) := by rw [Hid, ← hsz]; exact hsz1
      have VX := Lib.hid (VX.out.on hb)
      have VD := Lib.hid (VD.out.on hb)
      have B := Lib.hid (B.out.trans (hb.mono B.out.size))
      clear hb HD p0 p1 p2 p3 p4 p5
      have O1 := (Nf.own_nfa_new (own_start u1) (.int .i64 0) (.int .i64 0) (.slice none 0 0) (.slice none 0 0) (.slice none 0 0)).dfa (.int .i64 0) (.int .i64 0) (.slice none 0 0) (.slice none 0 0)
      rw [show (u1.alloc (.cells #[.int .i64 0, .int .i64 0, .slice none 0 0, .slice none 0 0, .slice none 0 0] 25)).heap.size = u1.heap.size + 1 by simp] at O1
      obtain ⟨uz, huz⟩ : ∃ W, W = (u1.alloc (.cells #[.int .i64 0, .int .i64 0, .slice none 0 0, .slice none 0 0, .slice none 0 0] 25)).alloc (.cells #[.int .i64 0, .int .i64 0, .slice none 0 0, .slice none 0 0] 29) := ⟨_, rfl⟩
      rw [← huz] at O1
      have HUZ := Lib.hid huz
      clear huz
      generalize hgm : u1.heap.size = gm at *
      have hm1 : w.heap.size ≠ gm := by omega
      have hm2 : w.heap.size + 1 ≠ gm := by omega
      have hm3 := hm1.symm
      have hm4 := hm2.symm
      have hx1 : w.heap.size ≠ gm + 1 := by omega
      have hx2 : w.heap.size + 1 ≠ gm + 1 := by omega
      have hx3 := hx1.symm
      have hx4 := hx2.symm
      have hmx : gm ≠ gm + 1 := by omega
      have hxm := hmx.symm
      obtain ⟨gx, hgx⟩ : ∃ g, g = gm + 1 := ⟨_, rfl⟩
      rw [← hgx] at O1 hx1 hx2 hx3 hx4 hmx hxm
      obtain ⟨fs, S⟩ : ∃ fs, Hid (Own u1 uz [eDfa gx [.int .i64 0, .int .i64 0, .slice none 0 0, .slice none 0 0], Nf.eNfa gm [.int .i64 0, .int .i64 0, .slice none 0 0, .slice none 0 0, .slice none 0 0]] fs) := ⟨[], O1⟩
      clear O1 hsz1 hsz
      have HGm := Lib.hid hgm
      have HGe := Lib.hid hgm
      have HGx := Lib.hid hgx
      clear hgm hgx
      obtain ⟨p0, p1, p2, p3, p4, p5⟩ := VX.out.box
      go_wp2_with fail
      rw [← HUZ.out, HGm.out, ← HGx.out]
      clear HUZ HGm HGx
      refine (HMi.out _ _ (VX.out.on S.out.below).at_).mono ?_
      rintro e u3 ⟨L12, s12, A12, n12, c12, M12, b12, d12, F12, m12, k12, rfl, hd, hb⟩
      clear p0 p1 p2 p3 p4 p5
      replace S := Lib.hid (S.out.on hb)
      clear hb HMi
      have S2 := Nf.own_nfa_new S.out (.int .i64 L12) (.int .i64 s12) (.slice A12 n12 c12) (.slice M12 b12 d12) (.slice F12 m12 k12)
      obtain ⟨u4, hw⟩ : ∃ W, W = u3.alloc (.cells #[.int .i64 L12, .int .i64 s12, .slice A12 n12 c12, .slice M12 b12 d12, .slice F12 m12 k12] 25) := ⟨_, rfl⟩
      have YV := Lib.hid (hd.out.on (show Below u3.heap.size u3 u4 by rw [hw]; exact below_alloc _ _))
      rw [← hw] at S2
      obtain ⟨gy, hgy⟩ : ∃ g, g = u3.heap.size := ⟨_, rfl⟩
      rw [← hgy] at S2
      have hym : gy ≠ gm := by have := (S.out.lt (t := 25) (sz := 5) (n := 1) (cap := 1) (ad := ⟨gm, 0, none⟩) (xs := [.int .i64 0, .int .i64 0, .slice none 0 0, .slice none 0 0, .slice none 0 0]) (by simp [Nf.eNfa])).2; intro e; rw [hgy] at e; simp only at this; omega
      have hyx : gy ≠ gx := by have := (S.out.lt (t := 29) (sz := 4) (n := 1) (cap := 1) (ad := ⟨gx, 0, none⟩) (xs := [.int .i64 0, .int .i64 0, .slice none 0 0, .slice none 0 0]) (by simp [eDfa])).2; intro e; rw [hgy] at e; simp only at this; omega
      have hgy2 : gm ≤ gy := by rw [hgy, ← HGe.out]; exact S.out.below.size
      have hmy := hym.symm
      have hxy := hyx.symm
      have hy1 : gy ≠ w.heap.size := by intro e; have := HSZ.out; omega
      have hy2 : gy ≠ w.heap.size + 1 := by intro e; have := HSZ.out; omega
      have hy3 := hy1.symm
      have hy4 := hy2.symm
      replace S : Hid (Own u1 u4 [Nf.eNfa gy [.int .i64 L12, .int .i64 s12, .slice A12 n12 c12, .slice M12 b12 d12, .slice F12 m12 k12], eDfa gx [.int .i64 0, .int .i64 0, .slice none 0 0, .slice none 0 0], Nf.eNfa gm [.int .i64 0, .int .i64 0, .slice none 0 0, .slice none 0 0, .slice none 0 0]] fs) := S2
      have HWY := Lib.hid hw
      have HGY := Lib.hid hgy
      clear hw S2 hgy hgy2 hd
      go_wp2_with fail
      rw [← HWY.out, ← HGY.out]
      clear HWY HGY
      refine (HE1.out _ (B.out.trans (S.out.below.mono B.out.size))).mono ?_
      rintro e u5 ⟨rfl, hb⟩
      replace S := Lib.hid (S.out.on hb)
      replace YV := Lib.hid (YV.out.on hb)
      clear hb
      clear HE1
      obtain ⟨gy_0, gyf_0⟩ := Nf.ncell S.out (g := gy) (l := [.int .i64 L12, .int .i64 s12, .slice A12 n12 c12, .slice M12 b12 d12, .slice F12 m12 k12]) (j := 0) (by simp) rfl
      obtain ⟨gy_1, gyf_1⟩ := Nf.ncell S.out (g := gy) (l := [.int .i64 L12, .int .i64 s12, .slice A12 n12 c12, .slice M12 b12 d12, .slice F12 m12 k12]) (j := 1) (by simp) rfl
      obtain ⟨gy_2, gyf_2⟩ := Nf.ncell S.out (g := gy) (l := [.int .i64 L12, .int .i64 s12, .slice A12 n12 c12, .slice M12 b12 d12, .slice F12 m12 k12]) (j := 2) (by simp) rfl
      obtain ⟨gy_3, gyf_3⟩ := Nf.ncell S.out (g := gy) (l := [.int .i64 L12, .int .i64 s12, .slice A12 n12 c12, .slice M12 b12 d12, .slice F12 m12 k12]) (j := 3) (by simp) rfl
      obtain ⟨gy_4, gyf_4⟩ := Nf.ncell S.out (g := gy) (l := [.int .i64 L12, .int .i64 s12, .slice A12 n12 c12, .slice M12 b12 d12, .slice F12 m12 k12]) (j := 4) (by simp) rfl
      obtain ⟨gm_0, gmf_0⟩ := Nf.ncell S.out (g := gm) (l := [.int .i64 0, .int .i64 0, .slice none 0 0, .slice none 0 0, .slice none 0 0]) (j := 0) (by simp) rfl
      obtain ⟨gm_1, gmf_1⟩ := Nf.ncell S.out (g := gm) (l := [.int .i64 0, .int .i64 0, .slice none 0 0, .slice none 0 0, .slice none 0 0]) (j := 1) (by simp) rfl
      obtain ⟨gm_2, gmf_2⟩ := Nf.ncell S.out (g := gm) (l := [.int .i64 0, .int .i64 0, .slice none 0 0, .slice none 0 0, .slice none 0 0]) (j := 2) (by simp) rfl
      obtain ⟨gm_3, gmf_3⟩ := Nf.ncell S.out (g := gm) (l := [.int .i64 0, .int .i64 0, .slice none 0 0, .slice none 0 0, .slice none 0 0]) (j := 3) (by simp) rfl
      obtain ⟨gm_4, gmf_4⟩ := Nf.ncell S.out (g := gm) (l := [.int .i64 0, .int .i64 0, .slice none 0 0, .slice none 0 0, .slice none 0 0]) (j := 4) (by simp) rfl
      go_wp2_with fail
      refine (HN1.out _ _ _ YV.out (Nf.nfaAt_zero _ _)).mono ?_
      rintro e u6 ⟨rfl, hb⟩
      clear gy_0 gyf_0 gy_1 gyf_1 gy_2 gyf_2 gy_3 gyf_3 gy_4 gyf_4 gm_0 gmf_0 gm_1 gmf_1 gm_2 gmf_2 gm_3 gmf_3 gm_4 gmf_4
      replace S := Lib.hid (S.out.on hb)
      clear hb
      clear HN1
      clear YV
      obtain ⟨p0, p1, p2, p3, p4, p5⟩ := (VX.out.on S.out.below).box
      go_wp2_with fail
      refine (HMk.out _ _ (VX.out.on S.out.below).at_).mono ?_
      rintro e u7 ⟨L16, s16, A16, n16, c16, F16, m16, k16, rfl, hd, hb⟩
      clear p0 p1 p2 p3 p4 p5
      replace S := Lib.hid (S.out.on hb)
      clear hb HMk
      obtain ⟨u8, hw, hbz, ZV⟩ := var_new u7 hd.out
      have ZV := Lib.hid ZV
      replace S := Lib.hid (S.out.on hbz)
      have HW7 := Lib.hid hw
      clear hbz hw hd
      go_wp2_with fail
      rw [← HW7.out]
      clear HW7
      refine (HE2.out _ (B.out.trans (S.out.below.mono B.out.size))).mono ?_
      rintro e u9 ⟨rfl, hb⟩
      replace S := Lib.hid (S.out.on hb)
      replace ZV := Lib.hid (ZV.out.on hb)
      clear hb
      clear HE2
      obtain ⟨z0, z1, z2, z3, z4⟩ := ZV.out.box
      obtain ⟨gx_0, gxf_0⟩ := Own.dcell S.out (g := gx) (l := [.int .i64 0, .int .i64 0, .slice none 0 0, .slice none 0 0]) (j := 0) (by simp) rfl
      obtain ⟨gx_1, gxf_1⟩ := Own.dcell S.out (g := gx) (l := [.int .i64 0, .int .i64 0, .slice none 0 0, .slice none 0 0]) (j := 1) (by simp) rfl
      obtain ⟨gx_2, gxf_2⟩ := Own.dcell S.out (g := gx) (l := [.int .i64 0, .int .i64 0, .slice none 0 0, .slice none 0 0]) (j := 2) (by simp) rfl
      obtain ⟨gx_3, gxf_3⟩ := Own.dcell S.out (g := gx) (l := [.int .i64 0, .int .i64 0, .slice none 0 0, .slice none 0 0]) (j := 3) (by simp) rfl
      go_wp2_with fail
      refine (HS2.out _ _ _ ZV.out.at_ (dfaAt_zero _ _)).mono ?_
      rintro e u10 ⟨rfl, hb⟩
      clear z0 z1 z2 z3 z4 gx_0 gxf_0 gx_1 gxf_1 gx_2 gxf_2 gx_3 gxf_3
      replace S := Lib.hid (S.out.on hb)
      clear hb
      clear HS2
      clear ZV
      obtain ⟨q0, q1, q2, q3, q4⟩ := (VD.out.on S.out.below).box
      go_wp2_with fail
      refine (HRd.out _ _ (VD.out.on S.out.below).at_).mono ?_
      rintro e u11 ⟨rfl, hb⟩
      clear q0 q1 q2 q3 q4
      replace S := Lib.hid (S.out.on hb)
      clear hb
      clear HRd
      obtain ⟨q0, q1, q2, q3, q4⟩ := (VD.out.on S.out.below).box
      obtain ⟨gm_0, gmf_0⟩ := Nf.ncell S.out (g := gm) (l := [.int .i64 0, .int .i64 0, .slice none 0 0, .slice none 0 0, .slice none 0 0]) (j := 0) (by simp) rfl
      obtain ⟨gm_1, gmf_1⟩ := Nf.ncell S.out (g := gm) (l := [.int .i64 0, .int .i64 0, .slice none 0 0, .slice none 0 0, .slice none 0 0]) (j := 1) (by simp) rfl
      obtain ⟨gm_2, gmf_2⟩ := Nf.ncell S.out (g := gm) (l := [.int .i64 0, .int .i64 0, .slice none 0 0, .slice none 0 0, .slice none 0 0]) (j := 2) (by simp) rfl
      obtain ⟨gm_3, gmf_3⟩ := Nf.ncell S.out (g := gm) (l := [.int .i64 0, .int .i64 0, .slice none 0 0, .slice none 0 0, .slice none 0 0]) (j := 3) (by simp) rfl
      obtain ⟨gm_4, gmf_4⟩ := Nf.ncell S.out (g := gm) (l := [.int .i64 0, .int .i64 0, .slice none 0 0, .slice none 0 0, .slice none 0 0]) (j := 4) (by simp) rfl
      obtain ⟨u12, hw⟩ : ∃ W, W = (((((u11.setCell ⟨gm, 0, none⟩ (.int .i64 0)).setCell ⟨gm, 1, none⟩ (.int .i64 0)).setCell ⟨gm, 2, none⟩ (.slice none 0 0)).setCell ⟨gm, 3, none⟩ (.slice none 0 0)).setCell ⟨gm, 4, none⟩ (.slice none 0 0)) := ⟨_, rfl⟩
      have S2 := (Nf.into5 (S.out.re [2, 0, 1] 3 rfl (by decide)) rfl (.int .i64 0) (.int .i64 0) (.slice none 0 0) (.slice none 0 0) (.slice none 0 0) hw).1
      replace S : Hid (Own u1 u12 [Nf.eNfa gy [.int .i64 L12, .int .i64 s12, .slice A12 n12 c12, .slice M12 b12 d12, .slice F12 m12 k12], eDfa gx [.int .i64 0, .int .i64 0, .slice none 0 0, .slice none 0 0], Nf.eNfa gm [.int .i64 0, .int .i64 0, .slice none 0 0, .slice none 0 0, .slice none 0 0]] fs) := S2.re [1, 2, 0] 3 rfl (by decide)
      have HW11 := Lib.hid hw
      clear hw S2
      go_wp2_with fail
      rw [← HW11.out]
      clear HW11
      refine (HPo.out _ _ (VD.out.on S.out.below).at_).mono ?_
      rintro e u13 ⟨he, _⟩
      obtain ⟨xx, rfl, ho⟩ := he.out
      obtain ⟨L22, s22, A22, n22, c22, M22, b22, d22, F22, m22, k22, rfl⟩ := ho.at_.form
      obtain ⟨fs2, om, hh⟩ := ho
      clear q0 q1 q2 q3 q4 gm_0 gmf_0 gm_1 gmf_1 gm_2 gmf_2 gm_3 gmf_3 gm_4 gmf_4
      clear he HPo
      obtain ⟨fs3, hfs, S2⟩ : ∃ F, F = fs2 ++ fs ∧ Own u1 u13 [Nf.eNfa gy [.int .i64 L12, .int .i64 s12, .slice A12 n12 c12, .slice M12 b12 d12, .slice F12 m12 k12], eDfa gx [.int .i64 0, .int .i64 0, .slice none 0 0, .slice none 0 0], Nf.eNfa gm [.int .i64 0, .int .i64 0, .slice none 0 0, .slice none 0 0, .slice none 0 0]] F := ⟨_, rfl, (by have h := S.out.join om; simpa only [List.nil_append] using h)⟩
      replace S := Lib.hid S2
      have HY := Lib.hid (hh.more (fun e he => by rw [hfs]; exact List.mem_append_left _ he : ∀ e ∈ fs2, e ∈ fs3))
      clear hh om S2 hfs
      clear fs2 fs
      skip
      obtain ⟨fs, hfs⟩ : ∃ F, F = fs3 := ⟨_, rfl⟩
      rw [← hfs] at S HY
      clear hfs
      clear fs3
      obtain ⟨gy_0, gyf_0⟩ := Nf.ncell S.out (g := gy) (l := [.int .i64 L12, .int .i64 s12, .slice A12 n12 c12, .slice M12 b12 d12, .slice F12 m12 k12]) (j := 0) (by simp) rfl
      obtain ⟨gy_1, gyf_1⟩ := Nf.ncell S.out (g := gy) (l := [.int .i64 L12, .int .i64 s12, .slice A12 n12 c12, .slice M12 b12 d12, .slice F12 m12 k12]) (j := 1) (by simp) rfl
      obtain ⟨gy_2, gyf_2⟩ := Nf.ncell S.out (g := gy) (l := [.int .i64 L12, .int .i64 s12, .slice A12 n12 c12, .slice M12 b12 d12, .slice F12 m12 k12]) (j := 2) (by simp) rfl
      obtain ⟨gy_3, gyf_3⟩ := Nf.ncell S.out (g := gy) (l := [.int .i64 L12, .int .i64 s12, .slice A12 n12 c12, .slice M12 b12 d12, .slice F12 m12 k12]) (j := 3) (by simp) rfl
      obtain ⟨gy_4, gyf_4⟩ := Nf.ncell S.out (g := gy) (l := [.int .i64 L12, .int .i64 s12, .slice A12 n12 c12, .slice M12 b12 d12, .slice F12 m12 k12]) (j := 4) (by simp) rfl
      obtain ⟨u14, hw⟩ : ∃ W, W = (((((u13.setCell ⟨gy, 0, none⟩ (.int .i64 L22)).setCell ⟨gy, 1, none⟩ (.int .i64 s22)).setCell ⟨gy, 2, none⟩ (.slice A22 n22 c22)).setCell ⟨gy, 3, none⟩ (.slice M22 b22 d22)).setCell ⟨gy, 4, none⟩ (.slice F22 m22 k22)) := ⟨_, rfl⟩
      have S2 := (Nf.into5 (S.out.re [0, 1, 2] 3 rfl (by decide)) rfl (.int .i64 L22) (.int .i64 s22) (.slice A22 n22 c22) (.slice M22 b22 d22) (.slice F22 m22 k22) hw).1
      replace S : Hid (Own u1 u14 [Nf.eNfa gy [.int .i64 L22, .int .i64 s22, .slice A22 n22 c22, .slice M22 b22 d22, .slice F22 m22 k22], eDfa gx [.int .i64 0, .int .i64 0, .slice none 0 0, .slice none 0 0], Nf.eNfa gm [.int .i64 0, .int .i64 0, .slice none 0 0, .slice none 0 0, .slice none 0 0]] fs) := S2.re [0, 1, 2] 3 rfl (by decide)
      have HW13 := Lib.hid hw
      clear hw S2
      go_wp2_with fail
      rw [← HW13.out]
      clear HW13
      refine (HE3.out _ (B.out.trans (S.out.below.mono B.out.size))).mono ?_
      rintro e u15 ⟨rfl, hb⟩
      clear gy_0 gyf_0 gy_1 gyf_1 gy_2 gyf_2 gy_3 gyf_3 gy_4 gyf_4
      replace S := Lib.hid (S.out.on hb)
      clear hb
      clear HE3
      obtain ⟨gy_0, gyf_0⟩ := Nf.ncell S.out (g := gy) (l := [.int .i64 L22, .int .i64 s22, .slice A22 n22 c22, .slice M22 b22 d22, .slice F22 m22 k22]) (j := 0) (by simp) rfl
      obtain ⟨gy_1, gyf_1⟩ := Nf.ncell S.out (g := gy) (l := [.int .i64 L22, .int .i64 s22, .slice A22 n22 c22, .slice M22 b22 d22, .slice F22 m22 k22]) (j := 1) (by simp) rfl
      obtain ⟨gy_2, gyf_2⟩ := Nf.ncell S.out (g := gy) (l := [.int .i64 L22, .int .i64 s22, .slice A22 n22 c22, .slice M22 b22 d22, .slice F22 m22 k22]) (j := 2) (by simp) rfl
      obtain ⟨gy_3, gyf_3⟩ := Nf.ncell S.out (g := gy) (l := [.int .i64 L22, .int .i64 s22, .slice A22 n22 c22, .slice M22 b22 d22, .slice F22 m22 k22]) (j := 3) (by simp) rfl
      obtain ⟨gy_4, gyf_4⟩ := Nf.ncell S.out (g := gy) (l := [.int .i64 L22, .int .i64 s22, .slice A22 n22 c22, .slice M22 b22 d22, .slice F22 m22 k22]) (j := 4) (by simp) rfl
      obtain ⟨gm_0, gmf_0⟩ := Nf.ncell S.out (g := gm) (l := [.int .i64 0, .int .i64 0, .slice none 0 0, .slice none 0 0, .slice none 0 0]) (j := 0) (by simp) rfl
      obtain ⟨gm_1, gmf_1⟩ := Nf.ncell S.out (g := gm) (l := [.int .i64 0, .int .i64 0, .slice none 0 0, .slice none 0 0, .slice none 0 0]) (j := 1) (by simp) rfl
      obtain ⟨gm_2, gmf_2⟩ := Nf.ncell S.out (g := gm) (l := [.int .i64 0, .int .i64 0, .slice none 0 0, .slice none 0 0, .slice none 0 0]) (j := 2) (by simp) rfl
      obtain ⟨gm_3, gmf_3⟩ := Nf.ncell S.out (g := gm) (l := [.int .i64 0, .int .i64 0, .slice none 0 0, .slice none 0 0, .slice none 0 0]) (j := 3) (by simp) rfl
      obtain ⟨gm_4, gmf_4⟩ := Nf.ncell S.out (g := gm) (l := [.int .i64 0, .int .i64 0, .slice none 0 0, .slice none 0 0, .slice none 0 0]) (j := 4) (by simp) rfl
      go_wp2_with fail
      refine (HN3.out _ _ _ (HY.out.at_ S.out) (Nf.nfaAt_zero _ _)).mono ?_
      rintro e u16 ⟨rfl, hb⟩
      clear gy_0 gyf_0 gy_1 gyf_1 gy_2 gyf_2 gy_3 gyf_3 gy_4 gyf_4 gm_0 gmf_0 gm_1 gmf_1 gm_2 gmf_2 gm_3 gmf_3 gm_4 gmf_4
      replace S := Lib.hid (S.out.on hb)
      clear hb
      clear HN3
      have HB := Lib.hid (B.out.trans (S.out.below.mono B.out.size))
      clear S
      go_wp2
      go_ret
      exact ⟨rfl, HB.out⟩


set_option maxRecDepth 100000 in
theorem lifted (os : Os) (started : os.Started) (H : Type) (enc : TypeId × Value → H) :
    ReturnsInHanded {} Tryd.checked os 3 .any (fun w args => (Rows.nfaMakesSpec.pre enc Tryd.prog Tryd.f3 Rows.nfaMakesRow.domain false w args ∧ laidMetH Tryd.prog [("errors.errorType", Rows.laid_errors_errorType)] w) ∧ sizedMet enc Tryd.prog Tryd.f3 (OpenSpec.ofChange Rows.nfaMakesSpec) false w args) (Rows.nfaMakesSpec.post enc Tryd.prog Tryd.f3 false true false false) := by
  refine returnsInHanded_of_change_and (C := Tryd.checked) (X := fun w _ => laidMetH Tryd.prog [("errors.errorType", Rows.laid_errors_errorType)] w) (fun _ _ _ hh h => h.of_heap hh) own started (by kernel_rfl) Tryd.func3
    (ChangeSpec.witness_at (enc := enc) (C := Tryd.checked) (os := os) (X := fun w _ => laidMetH Tryd.prog [("errors.errorType", Rows.laid_errors_errorType)] w) false (laidWorld os) #[.agg #[.int .i64 0, .int .i64 0, .slice none 0 0, .slice none 0 0, .slice none 0 0], .agg #[.int .i64 0, .int .i64 0, .slice none 0 0, .slice none 0 0]] 8 rfl (by kernel_rfl) (by kernel_rfl) (by kernel_rfl) (by kernel_rfl) (by kernel_rfl) (laidWorld_met os _)) ?_
  intro W base args ds gs before hval0 hW hcnd hsz0 hL _
  have hval : ∀ (j : Nat) t v, Tryd.f3.params[j]? = some t → args[j]? = some v → Value.okWide Tryd.prog W .any base t v := hval0
  have hsz : (DataW.weightsEach Tryd.prog (Tryd.f3.params.toList ++ Rows.nfaMakesSpec.plain.varTypes Tryd.prog) (ds ++ gs)).all (· ≤ reachBytes) = true := hsz0
  have hW' := hW
  obtain ⟨p, q, hA0, hV0, rfl, hfz, hnd⟩ := hW
  have hV : DataW.TrodVars enc Tryd.prog W (fun _ => true) [] gs q := hV0
  have hA : DataW.TrodAll enc Tryd.prog W 0 (fun _ => true) true Tryd.f3.params.toList args.toList ds p := hA0
  rw [Tryd.params3] at hA hval hsz
  obtain ⟨v0, vs0, d0, ds0, p0, q0, hargs, rfl, rfl, h0, rr0⟩ := trodAll_cons hA
  obtain ⟨v1, vs1, d1, ds1, p1, q1, rfl, rfl, rfl, h1, rr1⟩ := trodAll_cons rr0
  obtain ⟨rfl, rfl, rfl⟩ := trodAll_nil rr1
  obtain rfl : args = #[v0, v1] := by cases args; simp_all
  obtain ⟨rfl, rfl⟩ := trodVars_none hV
  have k0 := h0
  have lt0 : ∀ x ∈ p0, x.block < W.heap.size := by obtain ⟨m, hm⟩ := k0; exact DataW.trod_lt m _ _ _ hm
  have k1 := h1
  have lt1 : ∀ x ∈ p1, x.block < W.heap.size := by obtain ⟨m, hm⟩ := k1; exact DataW.trod_lt m _ _ _ hm
  obtain ⟨D0, x0⟩ : ∃ a : Nf.Nfa, Nf.NfaAt W W.heap.size v0 a := Nf.nfa_open (hval 0 25 v0 rfl rfl) h0
  obtain ⟨D1, x1⟩ : ∃ d : Df.Aut, Df.DfaAt W W.heap.size v1 d := Df.dfa_open (hval 1 29 v1 rfl rfl) h1
  clear hA0 hval0
  refine (walk v0 D0 v1 D1 W x0 x1 (handle_of_laid hL)).mono fun e W' ⟨he, bel⟩ => ?_
  subst he
  exact ⟨_, rfl, _, _, _, [], _, [], hW', trodAll_mk1 (shut_bool Tryd.underlying4 _), (trodAll_cons_mk (Below.trod laidOut (by kernel_rfl) (of_decide_eq_true (by kernel_rfl)) k0 bel lt0) (trodAll_cons_mk (Below.trod laidOut (by kernel_rfl) (of_decide_eq_true (by kernel_rfl)) k1 bel lt1) trodAll_mk0)), rfl, bel.frame _, fun h => by cases h⟩

theorem over : Rows.nfaMakesRow.holds Tryd.pinned (OpenSpec.ofChange Rows.nfaMakesSpec) :=
  OpenClaim.holds_of_wide 3 Tryd.f3 rfl rfl rfl rfl rfl rfl rfl ⟨rfl, rfl, rfl, rfl, rfl⟩ rfl rfl rfl rfl rfl (by kernel_rfl) Tryd.func3 (by kernel_rfl)
    (of_decide_eq_true (by kernel_rfl)) (by unfold Func.isWrapper; rw [if_neg (of_decide_eq_false (by kernel_rfl))]; exact ⟨rfl, rfl⟩)
    (fun os started H enc _ => lifted os started H enc)
theorem proved : Rows.NfaMakesCardSaid :=
  Claim7.holds_tied_plain_at .later [] [.handle] true (true, "e4d600c29fbf4c5fac612e47c5a6a81574e1e854991dc9fc02f52c8b403bfaa7") true
    over (fun _ h => by cases h) (by kernel_rfl) (fun _ h => by cases h) nfaMakes_row_tie rfl ⟨rfl, rfl⟩ (by kernel_rfl) rfl
    (fun f fn hf hfn => by
      obtain rfl : f = 3 := Option.some.inj ((show Tryd.prog.funcNamed "stileward/stilewardlaw2.NfaMakes" = some 3 by kernel_rfl).symm.trans hf) |>.symm
      obtain rfl : fn = Tryd.f3 := (Option.some.inj (Tryd.func3.symm.trans hfn)).symm
      exact ⟨by kernel_rfl, fun j t ht => by
        rw [Tryd.params3] at ht
        rcases j with _ | _ | j
        · obtain rfl : 25 = t := by simpa using ht
          exact (show Tryd.prog.wantsStandIn 25 = false by kernel_rfl)
        · obtain rfl : 29 = t := by simpa using ht
          exact (show Tryd.prog.wantsStandIn 29 = false by kernel_rfl)
        · simp at ht⟩)
    (by kernel_rfl)
#print axioms proved
end Go.Proofs.YtlhhhdgkdbplmaaDoor.nfaMakes
