/-
  The statement BackSaysCardSaid of this seat, proved: for every input the law returns true and its arguments read behind the call as before. Conditions: none but the row's own (each argument within the reach; the listed variable as the program lays it, tied by the given tie).
-/
import Derived.Test.YtnlkkfcjonchgaaDoorRows
import Derived.Test.YtnlkkfcjonchgaaDoorCards
import Derived.Test.YtnlkkfcjonchgaaDoorTie
import Derived.SevenTiedAt
import Derived.LaidLaws
import Derived.LaidHandle
import Derived.LaidMore
import Derived.Lay
import Derived.MakeChecks
import Derived.Stop.Joined
import Derived.JoinedOf
import Derived.RowKit
import Derived.RowKitTokens
import Derived.ChangeSame
import Derived.ChangeVars
import Derived.Test.YtnlkkfcjonchgaaDoorWords
import Derived.WalkKit
import Derived.ProofKit
import Derived.OpenShut
import Derived.ShutString
import Derived.ChangeOld
import Derived.Below
import Derived.SizedLaws
import Derived.Lib.Hide
import Derived.Test.YtnlkkfcjonchgaaDoorBackQ
import Derived.Test.YtnlkkfcjonchgaaDoorRefMb
import Derived.Test.YtnlkkfcjonchgaaDoorSays
import Derived.Test.YtnlkkfcjonchgaaDoorRefForm
import Derived.Test.YtnlkkfcjonchgaaDoorDfaX
namespace Go.Proofs.YtnlkkfcjonchgaaDoor.backSays
open Go.ChangeShapes Go.WideShapes Go.ChangeAt Go.RowKit Go.IntWalk Go.Proofs.YtnlkkfcjonchgaaDoor.Wd
open Go.ChangeMaps (open_string shut_string)
set_option linter.unusedVariables false

theorem own : ownKnob Tryd.prog.godebug = none := by kernel_rfl
theorem laidOut : laidOutB Tryd.prog = true := by kernel_rfl
theorem et : Tryd.prog.globalNamed "errors.errorType" = some 0 := by kernel_rfl
theorem rt : (Tryd.prog.cutTypes.find? (·.1 == "internal/reflectlite.rtype")).map (·.2) = some 133 := by kernel_rfl
theorem oneRow : ((List.range 177).filter fun t => Tryd.prog.rowNamed t [101, 114, 114, 111, 114]) = [31] := by kernel_rfl
theorem size : Tryd.prog.types.size = 177 := by kernel_rfl
/-- What the condition gives a walk: the variable's one cell. -/
theorem handle_of_laid {w : World} (h : laidMetH Tryd.prog [("errors.errorType", Rows.laid_errors_errorType)] w) : w.cell? ⟨0, 0, none⟩ = some (.iface 133 (.agg #[.pointer (some ⟨1, 31, none⟩)])) := by
  have h' : laidMet Tryd.prog [] w ∧ handlesMet Tryd.prog [("errors.errorType", Rows.laid_errors_errorType)] w := h
  obtain ⟨name, u, ty, e1, e2, e3, e4, e5⟩ := h'.2 _ (List.mem_singleton.2 rfl)
  have en : name = [101, 114, 114, 111, 114] := (Option.some.inj e1).symm
  subst en
  obtain rfl := Option.some.inj (rt.symm.trans e2)
  have hm : ty ∈ (List.range 177).filter fun t => Tryd.prog.rowNamed t [101, 114, 114, 111, 114] := List.mem_filter.2 ⟨List.mem_range.2 (by rw [← size]; exact e3), e4⟩
  rw [oneRow] at hm
  obtain rfl := List.mem_singleton.1 hm
  have hh : typeHandle Tryd.prog 31 = .pointer (some ⟨1, 31, none⟩) := by kernel_rfl
  rw [hh] at e5
  simpa using World.var?_cell et e5 0
/-- A world that meets the condition. -/
noncomputable def laidWorld (os : Os) : World :=
  let w0 := World.holding Tryd.prog os ⟨#[], #[], []⟩
  { w0 with heap := w0.heap.modify 0 fun
      | .cells _ t frozen => .cells #[.iface 133 (.agg #[.pointer (some ⟨1, 31, none⟩)])] t frozen
      | o => o }
theorem laidWorld_met (os : Os) (args : Array Value) : laidMetH Tryd.prog [("errors.errorType", Rows.laid_errors_errorType)] ((laidWorld os).forCall (fun _ _ => 0) ⟨#[], args, []⟩).memory :=
  laidMetH_of_parts (laidMet_nil _ _) (by kernel_rfl)
open Go.Proofs.YtnlkkfcjonchgaaDoor.Wo Go.Proofs.YtnlkkfcjonchgaaDoor.Er Go.Proofs.YtnlkkfcjonchgaaDoor.Df Go.Proofs.YtnlkkfcjonchgaaDoor.Fm
theorem says_gives {w : World} (hg : w.cell? ⟨0, 0, none⟩ = some (.iface 133 (.agg #[.pointer (some ⟨1, 31, none⟩)]))) (e : Nat) {E : Value} {K : Int} (hE : errV e = E) (hK : (e : Int) = K) (W : World) (hb : Below w.heap.size w W) :
    Calls Tryd.prog 10 #[E, .int .i64 K] W fun r w' => r = .returned (.bool true) ∧ Below W.heap.size W w' := by
  subst hE
  subst hK
  exact says e hg W hb
theorem lite_mk (L : Int) (f : List Nd) : Lite (mkOut L f).1 := by
  rcases mk_cases L f with ⟨l, m, hg, hl, hm, h⟩ | ⟨k, h, _⟩
  · rw [h]; exact (front_good hg hl hm).lite
  · rw [h]; exact lite_zero
theorem lite_bk (L : Int) (f : List Nd) : Lite (bkOut L f).1 := by
  rcases bk_cases L f with ⟨l, hg, hl, h⟩ | ⟨k, h, _⟩
  · rw [h]; exact (show Df.Good (backA L f l) from back_good hg hl).lite
  · rw [h]; exact lite_zero
theorem held_zero (fs : List Ent) {w0 w : World} {es : List Ent} (h : Own w0 w es fs) : DfaAt w w.heap.size (.agg #[.int .i64 0, .int .i64 0, .slice none 0 0, .slice none 0 0]) zeroA := (dfaOwn_zero (Below.refl w.heap.size w)).at_
/-- What a callee has made is held. -/
theorem own_more {w w1 w2 : World} {es fs : List Ent} (h : Own w w1 es fs) {x : Value} {d : Aut} (ho : DfaOwn w1 w2 x d) : ∃ (L s : Int) (A : Option Addr) (n c : Nat) (F : Option Addr) (m k : Nat) (F' : List Ent), x = .agg #[.int .i64 L, .int .i64 s, .slice A n c, .slice F m k] ∧ Own w w2 es F' ∧ Held F' L s (.slice A n c) (.slice F m k) d ∧ ∀ e ∈ fs, e ∈ F' := by
  obtain ⟨L, s, A, n, c, F, m, k, rfl⟩ := ho.at_.form
  obtain ⟨f1, o1, h1⟩ := ho.held
  refine ⟨L, s, A, n, c, F, m, k, f1 ++ fs, rfl, ?_, h1.more fun e he => List.mem_append_left _ he, fun e he => List.mem_append_right _ he⟩
  have := h.join o1
  simpa only [List.nil_append] using this

set_option maxRecDepth 100000 in
set_option maxHeartbeats 4000000 in
theorem walk (a0 : Int) (A1 : Option Addr) (c1 : Nat) (z1 : List Fm.Nd) (w : World) (l0 : -9223372036854775808 ≤ a0) (h0 : a0 ≤ 9223372036854775807) (v1 : Fm.NodesAt w w.heap.size A1 z1) (m1 : z1.length ≤ c1) (n1 : c1 ≤ 9223372036854775807) (r1 : z1.length ≤ 5864062014634) (hg : w.cell? ⟨0, 0, none⟩ = some (.iface 133 (.agg #[.pointer (some ⟨1, 31, none⟩)]))) :
    Calls Tryd.prog 3 #[.int .i64 a0, .slice A1 z1.length c1] w fun e w' => e = .returned (.bool true) ∧ Below w.heap.size w w' := by
  have hL : Small a0 := ⟨l0, h0⟩
  have hlen : z1.length ≤ 9223372036854775807 := by omega
  have HN := Lib.hid v1
  have HFo := Lib.hid (rform_any a0 A1 c1 z1 w v1 hlen)
  have HBk := Lib.hid (fun W (hA : NodesAt W W.heap.size A1 z1) => back_any a0 A1 c1 z1 W hL hA hlen)
  have HMk := Lib.hid (fun W (hA : NodesAt W W.heap.size A1 z1) => bmake_any a0 A1 c1 z1 W hL hA hlen)
  have O1 := ((own_start w).dfa (.int .i64 0) (.int .i64 0) (.slice none 0 0) (.slice none 0 0)).dfa (.int .i64 0) (.int .i64 0) (.slice none 0 0) (.slice none 0 0)
  rw [show (w.alloc (.cells #[.int .i64 0, .int .i64 0, .slice none 0 0, .slice none 0 0] 27)).heap.size = w.heap.size + 1 by simp] at O1
  obtain ⟨u0, hu0⟩ : ∃ W, W = (w.alloc (.cells #[.int .i64 0, .int .i64 0, .slice none 0 0, .slice none 0 0] 27)).alloc (.cells #[.int .i64 0, .int .i64 0, .slice none 0 0, .slice none 0 0] 27) := ⟨_, rfl⟩
  rw [← hu0] at O1
  have HU := Lib.hid hu0
  clear hu0
  obtain ⟨gx, hgx⟩ : ∃ g, g = w.heap.size := ⟨_, rfl⟩
  obtain ⟨gy, hgy⟩ : ∃ g, g = gx + 1 := ⟨_, rfl⟩
  rw [← hgx, ← hgy] at O1
  have HGx := Lib.hid hgx
  have HGy := Lib.hid hgy
  clear hgx hgy
  have S : Hid (Own w u0 [eDfa gx [.int .i64 0, .int .i64 0, .slice none 0 0, .slice none 0 0], eDfa gy [.int .i64 0, .int .i64 0, .slice none 0 0, .slice none 0 0]] []) := O1.re [1, 0] 2 rfl (by decide)
  clear O1
  have hl1 := lite_bk a0 z1
  have hl2 := lite_mk a0 z1
  have HE1 := Lib.hid (fun W (hb : Below w.heap.size w W) => says_gives hg (bkOut a0 z1).2 rfl rfl W hb)
  have HE2 := Lib.hid (fun W (hb : Below w.heap.size w W) => says_gives hg (mkOut a0 z1).2 rfl rfl W hb)
  have HS1 := Lib.hid (fun W v z (h : DfaAt W W.heap.size v (bkOut a0 z1).1) (h2 : DfaAt W W.heap.size z (bkOut a0 z1).1) => same_gives h h2 hl1 rfl)
  have HS2 := Lib.hid (fun W v z (h : DfaAt W W.heap.size v (mkOut a0 z1).1) (h2 : DfaAt W W.heap.size z (mkOut a0 z1).1) => same_gives h h2 hl2 rfl)
  by_cases h9 : fchk a0 z1 = 0
  · have hgd := fchk_iff.1 h9
    obtain ⟨n, rfl⟩ := Int.eq_ofNat_of_zero_le (show 0 ≤ a0 by have := hgd.l1; omega)
    have HRb := Lib.hid (fun W (hA : NodesAt W W.heap.size A1 z1) => rback_any n A1 c1 z1 W hA hgd)
    have HRm := Lib.hid (fun W (hA : NodesAt W W.heap.size A1 z1) => rbmake_any n A1 c1 z1 W hA hgd)
    rw [← bkOut_ok h9] at HRb
    rw [h9] at HFo
    generalize bkOut (n : Int) z1 = P1 at *
    generalize mkOut (n : Int) z1 = P2 at *
    obtain ⟨r1, q1⟩ := P1
    obtain ⟨r2, q2⟩ := P2
    simp only at HRb HRm HBk HMk HE1 HE2 HS1 HS2
    generalize errV q1 = E1 at *
    generalize errV q2 = E2 at *
    generalize (q1 : Int) = K1 at *
    generalize (q2 : Int) = K2 at *
    clear hgd h9 hl1 hl2 hg v1 hL hlen
    generalize z1.length = N at *
    go_enter Tryd.func3, Tryd.ntmps3
    go_wp2_with fail
    refine HFo.out.mono ?_
    rintro e v0 ⟨he, hw⟩
    obtain rfl := he.out
    rw [hw]
    clear hw he HFo v0
    go_wp2_with fail
    rw [← HU.out, ← HGx.out, ← HGy.out]
    clear HU HGx HGy
    refine (HRb.out _ (HN.out.on S.out.below)).mono ?_
    rintro e v1 he
    obtain ⟨x, h6, ho⟩ := he.out
    subst h6
    obtain ⟨L1, s1, A1, n1, c1, F1, m1, k1, fs1, rfl, hS, hH, hm⟩ := own_more S.out ho
    replace S := Lib.hid hS
    have HX := Lib.hid hH
    clear he ho hS hH hm
    obtain ⟨cgx0, cfgx0⟩ := S.out.dcell (g := gx) (l := [.int .i64 0, .int .i64 0, .slice none 0 0, .slice none 0 0]) (j := 0) (by simp) rfl
    obtain ⟨cgx1, cfgx1⟩ := S.out.dcell (g := gx) (l := [.int .i64 0, .int .i64 0, .slice none 0 0, .slice none 0 0]) (j := 1) (by simp) rfl
    obtain ⟨cgx2, cfgx2⟩ := S.out.dcell (g := gx) (l := [.int .i64 0, .int .i64 0, .slice none 0 0, .slice none 0 0]) (j := 2) (by simp) rfl
    obtain ⟨cgx3, cfgx3⟩ := S.out.dcell (g := gx) (l := [.int .i64 0, .int .i64 0, .slice none 0 0, .slice none 0 0]) (j := 3) (by simp) rfl
    obtain ⟨u1, hu⟩ : ∃ W, W = (((v1.setCell ⟨gx, 0, none⟩ (.int .i64 L1)).setCell ⟨gx, 1, none⟩ (.int .i64 s1)).setCell ⟨gx, 2, none⟩ (.slice A1 n1 c1)).setCell ⟨gx, 3, none⟩ (.slice F1 m1 k1) := ⟨_, rfl⟩
    have S2 := (((((S.out.re [0, 1] 2 rfl (by decide)).dset 0 (.int .i64 L1)).dset 1 (.int .i64 s1)).dset 2 (.slice A1 n1 c1)).dset 3 (.slice F1 m1 k1))
    rw [← hu] at S2
    replace S : Hid (Own w u1 [eDfa gx [.int .i64 L1, .int .i64 s1, .slice A1 n1 c1, .slice F1 m1 k1], eDfa gy [.int .i64 0, .int .i64 0, .slice none 0 0, .slice none 0 0]] fs1) := S2.re [0, 1] 2 rfl (by decide)
    have HU := Lib.hid hu
    clear hu S2
    go_wp2_with fail
    rw [← HU.out]
    clear HU HRb cgx0 cfgx0 cgx1 cfgx1 cgx2 cfgx2 cgx3 cfgx3
    refine (HRm.out _ (HN.out.on S.out.below)).mono ?_
    rintro e v2 he
    obtain ⟨x, h6, ho⟩ := he.out
    subst h6
    obtain ⟨L2, s2, A2, n2, c2, F2, m2, k2, fs2, rfl, hS, hH, hm⟩ := own_more S.out ho
    replace S := Lib.hid hS
    replace HX := Lib.hid (HX.out.more hm)
    have HY := Lib.hid hH
    clear he ho hS hH hm
    obtain ⟨cgy0, cfgy0⟩ := S.out.dcell (g := gy) (l := [.int .i64 0, .int .i64 0, .slice none 0 0, .slice none 0 0]) (j := 0) (by simp) rfl
    obtain ⟨cgy1, cfgy1⟩ := S.out.dcell (g := gy) (l := [.int .i64 0, .int .i64 0, .slice none 0 0, .slice none 0 0]) (j := 1) (by simp) rfl
    obtain ⟨cgy2, cfgy2⟩ := S.out.dcell (g := gy) (l := [.int .i64 0, .int .i64 0, .slice none 0 0, .slice none 0 0]) (j := 2) (by simp) rfl
    obtain ⟨cgy3, cfgy3⟩ := S.out.dcell (g := gy) (l := [.int .i64 0, .int .i64 0, .slice none 0 0, .slice none 0 0]) (j := 3) (by simp) rfl
    obtain ⟨u2, hu⟩ : ∃ W, W = (((v2.setCell ⟨gy, 0, none⟩ (.int .i64 L2)).setCell ⟨gy, 1, none⟩ (.int .i64 s2)).setCell ⟨gy, 2, none⟩ (.slice A2 n2 c2)).setCell ⟨gy, 3, none⟩ (.slice F2 m2 k2) := ⟨_, rfl⟩
    have S2 := (((((S.out.re [1, 0] 2 rfl (by decide)).dset 0 (.int .i64 L2)).dset 1 (.int .i64 s2)).dset 2 (.slice A2 n2 c2)).dset 3 (.slice F2 m2 k2))
    rw [← hu] at S2
    replace S : Hid (Own w u2 [eDfa gx [.int .i64 L1, .int .i64 s1, .slice A1 n1 c1, .slice F1 m1 k1], eDfa gy [.int .i64 L2, .int .i64 s2, .slice A2 n2 c2, .slice F2 m2 k2]] fs2) := S2.re [1, 0] 2 rfl (by decide)
    have HU := Lib.hid hu
    clear hu S2
    go_wp2_with fail
    rw [← HU.out]
    clear HU HRm cgy0 cfgy0 cgy1 cfgy1 cgy2 cfgy2 cgy3 cfgy3
    refine (HBk.out _ (HN.out.on S.out.below)).mono ?_
    rintro e v3 he
    obtain ⟨x, h6, ho⟩ := he.out
    subst h6
    obtain ⟨L3, s3, A3, n3, c3, F3, m3, k3, fs3, rfl, hS, hH, hm⟩ := own_more S.out ho
    replace S := Lib.hid hS
    replace HX := Lib.hid (HX.out.more hm)
    replace HY := Lib.hid (HY.out.more hm)
    have HD := Lib.hid hH
    clear he ho hS hH hm
    obtain ⟨u3, hu⟩ : ∃ W, W = v3.alloc (.cells #[.int .i64 L3, .int .i64 s3, .slice A3 n3 c3, .slice F3 m3 k3] 27) := ⟨_, rfl⟩
    have S2 := S.out.dfa (.int .i64 L3) (.int .i64 s3) (.slice A3 n3 c3) (.slice F3 m3 k3)
    rw [← hu] at S2
    obtain ⟨gd, hgd⟩ : ∃ g, g = v3.heap.size := ⟨_, rfl⟩
    rw [← hgd] at S2
    have HGd := Lib.hid hgd
    have HU := Lib.hid hu
    replace S : Hid (Own w u3 [eDfa gd [.int .i64 L3, .int .i64 s3, .slice A3 n3 c3, .slice F3 m3 k3], eDfa gx [.int .i64 L1, .int .i64 s1, .slice A1 n1 c1, .slice F1 m1 k1], eDfa gy [.int .i64 L2, .int .i64 s2, .slice A2 n2 c2, .slice F2 m2 k2]] fs3) := S2
    clear hgd hu S2
    go_wp2_with fail
    rw [← HU.out, ← HGd.out]
    clear HU HGd HBk
    refine (HE1.out _ S.out.below).mono ?_
    rintro e v4 ⟨rfl, hb⟩
    replace S := Lib.hid (S.out.on hb)
    clear hb HE1
    obtain ⟨cgd0, cfgd0⟩ := S.out.dcell (g := gd) (l := [.int .i64 L3, .int .i64 s3, .slice A3 n3 c3, .slice F3 m3 k3]) (j := 0) (by simp) rfl
    obtain ⟨cgd1, cfgd1⟩ := S.out.dcell (g := gd) (l := [.int .i64 L3, .int .i64 s3, .slice A3 n3 c3, .slice F3 m3 k3]) (j := 1) (by simp) rfl
    obtain ⟨cgd2, cfgd2⟩ := S.out.dcell (g := gd) (l := [.int .i64 L3, .int .i64 s3, .slice A3 n3 c3, .slice F3 m3 k3]) (j := 2) (by simp) rfl
    obtain ⟨cgd3, cfgd3⟩ := S.out.dcell (g := gd) (l := [.int .i64 L3, .int .i64 s3, .slice A3 n3 c3, .slice F3 m3 k3]) (j := 3) (by simp) rfl
    obtain ⟨cgx0, cfgx0⟩ := S.out.dcell (g := gx) (l := [.int .i64 L1, .int .i64 s1, .slice A1 n1 c1, .slice F1 m1 k1]) (j := 0) (by simp) rfl
    obtain ⟨cgx1, cfgx1⟩ := S.out.dcell (g := gx) (l := [.int .i64 L1, .int .i64 s1, .slice A1 n1 c1, .slice F1 m1 k1]) (j := 1) (by simp) rfl
    obtain ⟨cgx2, cfgx2⟩ := S.out.dcell (g := gx) (l := [.int .i64 L1, .int .i64 s1, .slice A1 n1 c1, .slice F1 m1 k1]) (j := 2) (by simp) rfl
    obtain ⟨cgx3, cfgx3⟩ := S.out.dcell (g := gx) (l := [.int .i64 L1, .int .i64 s1, .slice A1 n1 c1, .slice F1 m1 k1]) (j := 3) (by simp) rfl
    go_wp2_with fail
    refine (HS1.out _ _ _ (HD.out.at_ S.out) (HX.out.at_ S.out)).mono ?_
    rintro e v5 ⟨rfl, hb⟩
    replace S := Lib.hid (S.out.on hb)
    clear hb HS1 cgd0 cfgd0 cgd1 cfgd1 cgd2 cfgd2 cgd3 cfgd3 cgx0 cfgx0 cgx1 cfgx1 cgx2 cfgx2 cgx3 cfgx3
    clear HD
    go_wp2_with fail
    refine (HMk.out _ (HN.out.on S.out.below)).mono ?_
    rintro e v6 he
    obtain ⟨x, h6, ho⟩ := he.out
    subst h6
    obtain ⟨L6, s6, A6, n6, c6, F6, m6, k6, fs6, rfl, hS, hH, hm⟩ := own_more S.out ho
    replace S := Lib.hid hS
    replace HX := Lib.hid (HX.out.more hm)
    replace HY := Lib.hid (HY.out.more hm)
    have HD := Lib.hid hH
    clear he ho hS hH hm
    obtain ⟨cgd0, cfgd0⟩ := S.out.dcell (g := gd) (l := [.int .i64 L3, .int .i64 s3, .slice A3 n3 c3, .slice F3 m3 k3]) (j := 0) (by simp) rfl
    obtain ⟨cgd1, cfgd1⟩ := S.out.dcell (g := gd) (l := [.int .i64 L3, .int .i64 s3, .slice A3 n3 c3, .slice F3 m3 k3]) (j := 1) (by simp) rfl
    obtain ⟨cgd2, cfgd2⟩ := S.out.dcell (g := gd) (l := [.int .i64 L3, .int .i64 s3, .slice A3 n3 c3, .slice F3 m3 k3]) (j := 2) (by simp) rfl
    obtain ⟨cgd3, cfgd3⟩ := S.out.dcell (g := gd) (l := [.int .i64 L3, .int .i64 s3, .slice A3 n3 c3, .slice F3 m3 k3]) (j := 3) (by simp) rfl
    obtain ⟨u6, hu⟩ : ∃ W, W = (((v6.setCell ⟨gd, 0, none⟩ (.int .i64 L6)).setCell ⟨gd, 1, none⟩ (.int .i64 s6)).setCell ⟨gd, 2, none⟩ (.slice A6 n6 c6)).setCell ⟨gd, 3, none⟩ (.slice F6 m6 k6) := ⟨_, rfl⟩
    have S2 := (((((S.out.re [0, 1, 2] 3 rfl (by decide)).dset 0 (.int .i64 L6)).dset 1 (.int .i64 s6)).dset 2 (.slice A6 n6 c6)).dset 3 (.slice F6 m6 k6))
    rw [← hu] at S2
    replace S : Hid (Own w u6 [eDfa gd [.int .i64 L6, .int .i64 s6, .slice A6 n6 c6, .slice F6 m6 k6], eDfa gx [.int .i64 L1, .int .i64 s1, .slice A1 n1 c1, .slice F1 m1 k1], eDfa gy [.int .i64 L2, .int .i64 s2, .slice A2 n2 c2, .slice F2 m2 k2]] fs6) := S2.re [0, 1, 2] 3 rfl (by decide)
    have HU := Lib.hid hu
    clear hu S2
    go_wp2_with fail
    rw [← HU.out]
    clear HU HMk cgd0 cfgd0 cgd1 cfgd1 cgd2 cfgd2 cgd3 cfgd3
    refine (HE2.out _ S.out.below).mono ?_
    rintro e v7 ⟨rfl, hb⟩
    replace S := Lib.hid (S.out.on hb)
    clear hb HE2
    obtain ⟨cgd0, cfgd0⟩ := S.out.dcell (g := gd) (l := [.int .i64 L6, .int .i64 s6, .slice A6 n6 c6, .slice F6 m6 k6]) (j := 0) (by simp) rfl
    obtain ⟨cgd1, cfgd1⟩ := S.out.dcell (g := gd) (l := [.int .i64 L6, .int .i64 s6, .slice A6 n6 c6, .slice F6 m6 k6]) (j := 1) (by simp) rfl
    obtain ⟨cgd2, cfgd2⟩ := S.out.dcell (g := gd) (l := [.int .i64 L6, .int .i64 s6, .slice A6 n6 c6, .slice F6 m6 k6]) (j := 2) (by simp) rfl
    obtain ⟨cgd3, cfgd3⟩ := S.out.dcell (g := gd) (l := [.int .i64 L6, .int .i64 s6, .slice A6 n6 c6, .slice F6 m6 k6]) (j := 3) (by simp) rfl
    obtain ⟨cgy0, cfgy0⟩ := S.out.dcell (g := gy) (l := [.int .i64 L2, .int .i64 s2, .slice A2 n2 c2, .slice F2 m2 k2]) (j := 0) (by simp) rfl
    obtain ⟨cgy1, cfgy1⟩ := S.out.dcell (g := gy) (l := [.int .i64 L2, .int .i64 s2, .slice A2 n2 c2, .slice F2 m2 k2]) (j := 1) (by simp) rfl
    obtain ⟨cgy2, cfgy2⟩ := S.out.dcell (g := gy) (l := [.int .i64 L2, .int .i64 s2, .slice A2 n2 c2, .slice F2 m2 k2]) (j := 2) (by simp) rfl
    obtain ⟨cgy3, cfgy3⟩ := S.out.dcell (g := gy) (l := [.int .i64 L2, .int .i64 s2, .slice A2 n2 c2, .slice F2 m2 k2]) (j := 3) (by simp) rfl
    go_wp2_with fail
    refine (HS2.out _ _ _ (HD.out.at_ S.out) (HY.out.at_ S.out)).mono ?_
    rintro e v8 ⟨rfl, hb⟩
    replace S := Lib.hid (S.out.on hb)
    clear hb HS2 cgd0 cfgd0 cgd1 cfgd1 cgd2 cfgd2 cgd3 cfgd3 cgy0 cfgy0 cgy1 cfgy1 cgy2 cfgy2 cgy3 cfgy3
    have HB := Lib.hid S.out.below
    clear S HD HX HY
    go_wp2
    go_ret
    exact ⟨rfl, HB.out⟩
  · obtain ⟨K, hK⟩ : ∃ K : Int, K = (fchk a0 z1 : Int) := ⟨_, rfl⟩
    have hk0 : (K == 0) = false := beq_eq_false_iff_ne.2 (by omega)
    have hp1 : bkOut a0 z1 = (zeroA, fchk a0 z1) := bkOut_bad h9
    have hp2 : mkOut a0 z1 = (zeroA, fchk a0 z1) := by unfold mkOut; rw [hp1, if_neg h9]
    rw [hp1] at HBk HE1 HS1
    rw [hp2] at HMk HE2 HS2
    rw [← hK] at HFo
    simp only at HBk HMk HE1 HE2 HS1 HS2
    rw [← hK] at HE1 HE2
    generalize errV (fchk a0 z1) = E1 at *
    clear hp1 hp2 hK h9 hl1 hl2 hg v1 hL hlen
    generalize z1.length = N at *
    go_enter Tryd.func3, Tryd.ntmps3
    go_wp2_with fail
    refine HFo.out.mono ?_
    rintro e v0 ⟨he, hw⟩
    obtain rfl := he.out
    rw [hw]
    clear hw he HFo v0
    go_wp2_with fail
    rw [← HU.out, ← HGx.out, ← HGy.out]
    clear HU HGx HGy
    refine (HBk.out _ (HN.out.on S.out.below)).mono ?_
    rintro e v1 he
    obtain ⟨x, h6, ho⟩ := he.out
    subst h6
    obtain ⟨L1, s1, A1, n1, c1, F1, m1, k1, fs1, rfl, hS, hH, hm⟩ := own_more S.out ho
    replace S := Lib.hid hS
    have HD := Lib.hid hH
    clear he ho hS hH hm
    obtain ⟨u1, hu⟩ : ∃ W, W = v1.alloc (.cells #[.int .i64 L1, .int .i64 s1, .slice A1 n1 c1, .slice F1 m1 k1] 27) := ⟨_, rfl⟩
    have S2 := S.out.dfa (.int .i64 L1) (.int .i64 s1) (.slice A1 n1 c1) (.slice F1 m1 k1)
    rw [← hu] at S2
    obtain ⟨gd, hgd⟩ : ∃ g, g = v1.heap.size := ⟨_, rfl⟩
    rw [← hgd] at S2
    have HGd := Lib.hid hgd
    have HU := Lib.hid hu
    replace S : Hid (Own w u1 [eDfa gd [.int .i64 L1, .int .i64 s1, .slice A1 n1 c1, .slice F1 m1 k1], eDfa gx [.int .i64 0, .int .i64 0, .slice none 0 0, .slice none 0 0], eDfa gy [.int .i64 0, .int .i64 0, .slice none 0 0, .slice none 0 0]] fs1) := S2
    clear hgd hu S2
    go_wp2_with fail
    rw [← HU.out, ← HGd.out]
    clear HU HGd HBk
    refine (HE1.out _ S.out.below).mono ?_
    rintro e v2 ⟨rfl, hb⟩
    replace S := Lib.hid (S.out.on hb)
    clear hb HE1
    obtain ⟨cgd0, cfgd0⟩ := S.out.dcell (g := gd) (l := [.int .i64 L1, .int .i64 s1, .slice A1 n1 c1, .slice F1 m1 k1]) (j := 0) (by simp) rfl
    obtain ⟨cgd1, cfgd1⟩ := S.out.dcell (g := gd) (l := [.int .i64 L1, .int .i64 s1, .slice A1 n1 c1, .slice F1 m1 k1]) (j := 1) (by simp) rfl
    obtain ⟨cgd2, cfgd2⟩ := S.out.dcell (g := gd) (l := [.int .i64 L1, .int .i64 s1, .slice A1 n1 c1, .slice F1 m1 k1]) (j := 2) (by simp) rfl
    obtain ⟨cgd3, cfgd3⟩ := S.out.dcell (g := gd) (l := [.int .i64 L1, .int .i64 s1, .slice A1 n1 c1, .slice F1 m1 k1]) (j := 3) (by simp) rfl
    obtain ⟨cgx0, cfgx0⟩ := S.out.dcell (g := gx) (l := [.int .i64 0, .int .i64 0, .slice none 0 0, .slice none 0 0]) (j := 0) (by simp) rfl
    obtain ⟨cgx1, cfgx1⟩ := S.out.dcell (g := gx) (l := [.int .i64 0, .int .i64 0, .slice none 0 0, .slice none 0 0]) (j := 1) (by simp) rfl
    obtain ⟨cgx2, cfgx2⟩ := S.out.dcell (g := gx) (l := [.int .i64 0, .int .i64 0, .slice none 0 0, .slice none 0 0]) (j := 2) (by simp) rfl
    obtain ⟨cgx3, cfgx3⟩ := S.out.dcell (g := gx) (l := [.int .i64 0, .int .i64 0, .slice none 0 0, .slice none 0 0]) (j := 3) (by simp) rfl
    go_wp2_with fail
    refine (HS1.out _ _ _ (HD.out.at_ S.out) (held_zero _ S.out)).mono ?_
    rintro e v3 ⟨rfl, hb⟩
    replace S := Lib.hid (S.out.on hb)
    clear hb HS1 cgd0 cfgd0 cgd1 cfgd1 cgd2 cfgd2 cgd3 cfgd3 cgx0 cfgx0 cgx1 cfgx1 cgx2 cfgx2 cgx3 cfgx3
    clear HD
    go_wp2_with fail
    refine (HMk.out _ (HN.out.on S.out.below)).mono ?_
    rintro e v4 he
    obtain ⟨x, h6, ho⟩ := he.out
    subst h6
    obtain ⟨L4, s4, A4, n4, c4, F4, m4, k4, fs4, rfl, hS, hH, hm⟩ := own_more S.out ho
    replace S := Lib.hid hS
    have HD := Lib.hid hH
    clear he ho hS hH hm
    obtain ⟨cgd0, cfgd0⟩ := S.out.dcell (g := gd) (l := [.int .i64 L1, .int .i64 s1, .slice A1 n1 c1, .slice F1 m1 k1]) (j := 0) (by simp) rfl
    obtain ⟨cgd1, cfgd1⟩ := S.out.dcell (g := gd) (l := [.int .i64 L1, .int .i64 s1, .slice A1 n1 c1, .slice F1 m1 k1]) (j := 1) (by simp) rfl
    obtain ⟨cgd2, cfgd2⟩ := S.out.dcell (g := gd) (l := [.int .i64 L1, .int .i64 s1, .slice A1 n1 c1, .slice F1 m1 k1]) (j := 2) (by simp) rfl
    obtain ⟨cgd3, cfgd3⟩ := S.out.dcell (g := gd) (l := [.int .i64 L1, .int .i64 s1, .slice A1 n1 c1, .slice F1 m1 k1]) (j := 3) (by simp) rfl
    obtain ⟨u4, hu⟩ : ∃ W, W = (((v4.setCell ⟨gd, 0, none⟩ (.int .i64 L4)).setCell ⟨gd, 1, none⟩ (.int .i64 s4)).setCell ⟨gd, 2, none⟩ (.slice A4 n4 c4)).setCell ⟨gd, 3, none⟩ (.slice F4 m4 k4) := ⟨_, rfl⟩
    have S2 := (((((S.out.re [0, 1, 2] 3 rfl (by decide)).dset 0 (.int .i64 L4)).dset 1 (.int .i64 s4)).dset 2 (.slice A4 n4 c4)).dset 3 (.slice F4 m4 k4))
    rw [← hu] at S2
    replace S : Hid (Own w u4 [eDfa gd [.int .i64 L4, .int .i64 s4, .slice A4 n4 c4, .slice F4 m4 k4], eDfa gx [.int .i64 0, .int .i64 0, .slice none 0 0, .slice none 0 0], eDfa gy [.int .i64 0, .int .i64 0, .slice none 0 0, .slice none 0 0]] fs4) := S2.re [0, 1, 2] 3 rfl (by decide)
    have HU := Lib.hid hu
    clear hu S2
    go_wp2_with fail
    rw [← HU.out]
    clear HU HMk cgd0 cfgd0 cgd1 cfgd1 cgd2 cfgd2 cgd3 cfgd3
    refine (HE2.out _ S.out.below).mono ?_
    rintro e v5 ⟨rfl, hb⟩
    replace S := Lib.hid (S.out.on hb)
    clear hb HE2
    obtain ⟨cgd0, cfgd0⟩ := S.out.dcell (g := gd) (l := [.int .i64 L4, .int .i64 s4, .slice A4 n4 c4, .slice F4 m4 k4]) (j := 0) (by simp) rfl
    obtain ⟨cgd1, cfgd1⟩ := S.out.dcell (g := gd) (l := [.int .i64 L4, .int .i64 s4, .slice A4 n4 c4, .slice F4 m4 k4]) (j := 1) (by simp) rfl
    obtain ⟨cgd2, cfgd2⟩ := S.out.dcell (g := gd) (l := [.int .i64 L4, .int .i64 s4, .slice A4 n4 c4, .slice F4 m4 k4]) (j := 2) (by simp) rfl
    obtain ⟨cgd3, cfgd3⟩ := S.out.dcell (g := gd) (l := [.int .i64 L4, .int .i64 s4, .slice A4 n4 c4, .slice F4 m4 k4]) (j := 3) (by simp) rfl
    obtain ⟨cgy0, cfgy0⟩ := S.out.dcell (g := gy) (l := [.int .i64 0, .int .i64 0, .slice none 0 0, .slice none 0 0]) (j := 0) (by simp) rfl
    obtain ⟨cgy1, cfgy1⟩ := S.out.dcell (g := gy) (l := [.int .i64 0, .int .i64 0, .slice none 0 0, .slice none 0 0]) (j := 1) (by simp) rfl
    obtain ⟨cgy2, cfgy2⟩ := S.out.dcell (g := gy) (l := [.int .i64 0, .int .i64 0, .slice none 0 0, .slice none 0 0]) (j := 2) (by simp) rfl
    obtain ⟨cgy3, cfgy3⟩ := S.out.dcell (g := gy) (l := [.int .i64 0, .int .i64 0, .slice none 0 0, .slice none 0 0]) (j := 3) (by simp) rfl
    go_wp2_with fail
    refine (HS2.out _ _ _ (HD.out.at_ S.out) (held_zero _ S.out)).mono ?_
    rintro e v6 ⟨rfl, hb⟩
    replace S := Lib.hid (S.out.on hb)
    clear hb HS2 cgd0 cfgd0 cgd1 cfgd1 cgd2 cfgd2 cgd3 cfgd3 cgy0 cfgy0 cgy1 cfgy1 cgy2 cfgy2 cgy3 cfgy3
    have HB := Lib.hid S.out.below
    clear S HD 
    go_wp2
    go_ret
    exact ⟨rfl, HB.out⟩


set_option maxRecDepth 100000 in
theorem lifted (os : Os) (started : os.Started) (H : Type) (enc : TypeId × Value → H) :
    ReturnsInHanded {} Tryd.checked os 3 .any (fun w args => (Rows.backSaysSpec.pre enc Tryd.prog Tryd.f3 Rows.backSaysRow.domain false w args ∧ laidMetH Tryd.prog [("errors.errorType", Rows.laid_errors_errorType)] w) ∧ sizedMet enc Tryd.prog Tryd.f3 (OpenSpec.ofChange Rows.backSaysSpec) false w args) (Rows.backSaysSpec.post enc Tryd.prog Tryd.f3 false true false false) := by
  refine returnsInHanded_of_change_and (C := Tryd.checked) (X := fun w _ => laidMetH Tryd.prog [("errors.errorType", Rows.laid_errors_errorType)] w) (fun _ _ _ hh h => h.of_heap hh) own started (by kernel_rfl) Tryd.func3
    (ChangeSpec.witness_at (enc := enc) (C := Tryd.checked) (os := os) (X := fun w _ => laidMetH Tryd.prog [("errors.errorType", Rows.laid_errors_errorType)] w) false (laidWorld os) #[.int .i64 0, .slice none 0 0] 8 rfl (by kernel_rfl) (by kernel_rfl) (by kernel_rfl) (by kernel_rfl) (by kernel_rfl) (laidWorld_met os _)) ?_
  intro W base args ds gs before hval0 hW hcnd hsz0 hL _
  have hval : ∀ (j : Nat) t v, Tryd.f3.params[j]? = some t → args[j]? = some v → Value.okWide Tryd.prog W .any base t v := hval0
  have hsz : (DataW.weightsEach Tryd.prog (Tryd.f3.params.toList ++ Rows.backSaysSpec.plain.varTypes Tryd.prog) (ds ++ gs)).all (· ≤ reachBytes) = true := hsz0
  have hW' := hW
  obtain ⟨p, q, hA0, hV0, rfl, hfz, hnd⟩ := hW
  have hV : DataW.TrodVars enc Tryd.prog W (fun _ => true) [] gs q := hV0
  have hA : DataW.TrodAll enc Tryd.prog W 0 (fun _ => true) true Tryd.f3.params.toList args.toList ds p := hA0
  rw [Tryd.params3] at hA hval hsz
  obtain ⟨v0, vs0, d0, ds0, p0, q0, hargs, rfl, rfl, h0, rr0⟩ := trodAll_cons hA
  obtain ⟨v1, vs1, d1, ds1, p1, q1, rfl, rfl, rfl, h1, rr1⟩ := trodAll_cons rr0
  obtain ⟨rfl, rfl, rfl⟩ := trodAll_nil rr1
  obtain rfl : args = #[v0, v1] := by cases args; simp_all
  obtain ⟨rfl, rfl⟩ := trodVars_none hV
  have k0 := h0
  have lt0 : ∀ x ∈ p0, x.block < W.heap.size := by obtain ⟨m, hm⟩ := k0; exact DataW.trod_lt m _ _ _ hm
  have k1 := h1
  have lt1 : ∀ x ∈ p1, x.block < W.heap.size := by obtain ⟨m, hm⟩ := k1; exact DataW.trod_lt m _ _ _ hm
  obtain ⟨a0, rfl, rfl, rfl, w0⟩ := open_int Tryd.underlying3 (hval 0 3 v0 rfl rfl) h0
  obtain ⟨l0, hh0⟩ := bounds_i64 w0
  obtain ⟨A1, c1, z1, rfl, m1, n1, x1, r1⟩ : ∃ (A : Option Addr) (c : Nat) (l : List Fm.Nd), v1 = .slice A l.length c ∧ l.length ≤ c ∧ c ≤ 9223372036854775807 ∧ Fm.NodesAt W W.heap.size A l ∧ l.length ≤ 5864062014634 := by
    obtain ⟨A, len, c, rfl⟩ := okWide_slice Tryd.underlying22 (hval 1 22 v1 rfl rfl)
    obtain ⟨fuel, hf⟩ := h1
    obtain ⟨A2, c2, l, hcs, q1, q2, q3, q4⟩ := Fm.open_nodes hf
    simp [Value.cells] at hcs
    obtain ⟨rfl, rfl, rfl⟩ := hcs
    refine ⟨_, _, l, rfl, q1, q2, q3, ?_⟩
    rcases q4 with q4 | ⟨es, sp, hd, hl⟩
    · omega
    · have := sized_slice hsz (j := 1) (t := 22) (e := 48) (elems := es) (spare := sp) rfl (by rw [← hd]; rfl) Tryd.underlying22
      rw [(show Tryd.prog.bytesOf 48 = 24 by kernel_rfl)] at this
      simp only [reachBytes] at this
      omega
  clear hA0 hval0
  refine (walk a0 A1 c1 z1 W l0 hh0 x1 m1 n1 r1 (handle_of_laid hL)).mono fun e W' ⟨he, bel⟩ => ?_
  subst he
  exact ⟨_, rfl, _, _, _, [], _, [], hW', trodAll_mk1 (shut_bool Tryd.underlying4 _), (trodAll_cons_mk (Below.trod laidOut (by kernel_rfl) (of_decide_eq_true (by kernel_rfl)) k0 bel lt0) (trodAll_cons_mk (Below.trod laidOut (by kernel_rfl) (of_decide_eq_true (by kernel_rfl)) k1 bel lt1) trodAll_mk0)), rfl, bel.frame _, fun h => by cases h⟩

theorem over : Rows.backSaysRow.holds Tryd.pinned (OpenSpec.ofChange Rows.backSaysSpec) :=
  OpenClaim.holds_of_wide 3 Tryd.f3 rfl rfl rfl rfl rfl rfl rfl ⟨rfl, rfl, rfl, rfl, rfl⟩ rfl rfl rfl rfl rfl (by kernel_rfl) Tryd.func3 (by kernel_rfl)
    (of_decide_eq_true (by kernel_rfl)) (by unfold Func.isWrapper; rw [if_neg (of_decide_eq_false (by kernel_rfl))]; exact ⟨rfl, rfl⟩)
    (fun os started H enc _ => lifted os started H enc)
theorem proved : Rows.BackSaysCardSaid :=
  Claim7.holds_tied_plain_at .later [] [.handle] true (true, "6e8fcf5b8174749e77071be18cc16dd035add814f9efaa52dd7c4b621ac71f9d") true
    over (fun _ h => by cases h) (by kernel_rfl) (fun _ h => by cases h) backSays_row_tie rfl ⟨rfl, rfl⟩ (by kernel_rfl) rfl
    (fun f fn hf hfn => by
      obtain rfl : f = 3 := Option.some.inj ((show Tryd.prog.funcNamed "stileward/stilewardlaw3.BackSays" = some 3 by kernel_rfl).symm.trans hf) |>.symm
      obtain rfl : fn = Tryd.f3 := (Option.some.inj (Tryd.func3.symm.trans hfn)).symm
      exact ⟨by kernel_rfl, fun j t ht => by
        rw [Tryd.params3] at ht
        rcases j with _ | _ | j
        · obtain rfl : 3 = t := by simpa using ht
          exact (show Tryd.prog.wantsStandIn 3 = false by kernel_rfl)
        · obtain rfl : 22 = t := by simpa using ht
          exact (show Tryd.prog.wantsStandIn 22 = false by kernel_rfl)
        · simp at ht⟩)
    (by kernel_rfl)
#print axioms proved
end Go.Proofs.YtnlkkfcjonchgaaDoor.backSays
