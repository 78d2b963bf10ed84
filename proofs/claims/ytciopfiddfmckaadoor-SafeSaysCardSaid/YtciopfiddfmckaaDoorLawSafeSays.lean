/-
  The statement SafeSaysCardSaid of this seat, proved: for every input the law returns true and its arguments read behind the call as before. Conditions: none but the row's own (each argument within the reach; the listed variable as the program lays it, tied by the given tie).
-/
import Derived.Test.YtciopfiddfmckaaDoorRows
import Derived.Test.YtciopfiddfmckaaDoorCards
import Derived.Test.YtciopfiddfmckaaDoorTie
import Derived.SevenTiedAt
import Derived.LaidLaws
import Derived.LaidHandle
import Derived.LaidMore
import Derived.Lay
import Derived.MakeChecks
import Derived.Stop.Joined
import Derived.JoinedOf
import Derived.RowKit
import Derived.RowKitTokens
import Derived.ChangeSame
import Derived.ChangeVars
import Derived.Test.YtciopfiddfmckaaDoorWords
import Derived.WalkKit
import Derived.ProofKit
import Derived.OpenShut
import Derived.ShutString
import Derived.ChangeOld
import Derived.Below
import Derived.SizedLaws
import Derived.Lib.Hide
import Derived.Test.YtciopfiddfmckaaDoorSafeL
import Derived.Test.YtciopfiddfmckaaDoorRefSafe
import Derived.Test.YtciopfiddfmckaaDoorRefCls
import Derived.Test.YtciopfiddfmckaaDoorRefDfa
import Derived.Test.YtciopfiddfmckaaDoorDfaL
import Derived.Test.YtciopfiddfmckaaDoorSays
namespace Go.Proofs.YtciopfiddfmckaaDoor.safeSays
open Go.ChangeShapes Go.WideShapes Go.ChangeAt Go.RowKit Go.IntWalk Go.Proofs.YtciopfiddfmckaaDoor.Wd
open Go.ChangeMaps (open_string shut_string)
set_option linter.unusedVariables false

theorem own : ownKnob Tryd.prog.godebug = none := by kernel_rfl
theorem laidOut : laidOutB Tryd.prog = true := by kernel_rfl
theorem et : Tryd.prog.globalNamed "errors.errorType" = some 0 := by kernel_rfl
theorem rt : (Tryd.prog.cutTypes.find? (·.1 == "internal/reflectlite.rtype")).map (·.2) = some 137 := by kernel_rfl
theorem oneRow : ((List.range 180).filter fun t => Tryd.prog.rowNamed t [101, 114, 114, 111, 114]) = [30] := by kernel_rfl
theorem size : Tryd.prog.types.size = 180 := by kernel_rfl
/-- What the condition gives a walk: the variable's one cell. -/
theorem handle_of_laid {w : World} (h : laidMetH Tryd.prog [("errors.errorType", Rows.laid_errors_errorType)] w) : w.cell? ⟨0, 0, none⟩ = some (.iface 137 (.agg #[.pointer (some ⟨1, 30, none⟩)])) := by
  have h' : laidMet Tryd.prog [] w ∧ handlesMet Tryd.prog [("errors.errorType", Rows.laid_errors_errorType)] w := h
  obtain ⟨name, u, ty, e1, e2, e3, e4, e5⟩ := h'.2 _ (List.mem_singleton.2 rfl)
  have en : name = [101, 114, 114, 111, 114] := (Option.some.inj e1).symm
  subst en
  obtain rfl := Option.some.inj (rt.symm.trans e2)
  have hm : ty ∈ (List.range 180).filter fun t => Tryd.prog.rowNamed t [101, 114, 114, 111, 114] := List.mem_filter.2 ⟨List.mem_range.2 (by rw [← size]; exact e3), e4⟩
  rw [oneRow] at hm
  obtain rfl := List.mem_singleton.1 hm
  have hh : typeHandle Tryd.prog 30 = .pointer (some ⟨1, 30, none⟩) := by kernel_rfl
  rw [hh] at e5
  simpa using World.var?_cell et e5 0
/-- A world that meets the condition. -/
noncomputable def laidWorld (os : Os) : World :=
  let w0 := World.holding Tryd.prog os ⟨#[], #[], []⟩
  { w0 with heap := w0.heap.modify 0 fun
      | .cells _ t frozen => .cells #[.iface 137 (.agg #[.pointer (some ⟨1, 30, none⟩)])] t frozen
      | o => o }
theorem laidWorld_met (os : Os) (args : Array Value) : laidMetH Tryd.prog [("errors.errorType", Rows.laid_errors_errorType)] ((laidWorld os).forCall (fun _ _ => 0) ⟨#[], args, []⟩).memory :=
  laidMetH_of_parts (laidMet_nil _ _) (by kernel_rfl)
open Go.Proofs.YtciopfiddfmckaaDoor.Wo Go.Proofs.YtciopfiddfmckaaDoor.Er Go.Proofs.YtciopfiddfmckaaDoor.Df Go.Proofs.YtciopfiddfmckaaDoor.Rc Go.Proofs.YtciopfiddfmckaaDoor.Sm Go.Proofs.YtciopfiddfmckaaDoor.Mp Go.Proofs.YtciopfiddfmckaaDoor.Sa
theorem says_gives {w : World} (hg : w.cell? ⟨0, 0, none⟩ = some (.iface 137 (.agg #[.pointer (some ⟨1, 30, none⟩)]))) (e : Nat) {E : Value} {K : Int} (hE : errV e = E) (hK : (e : Int) = K) (W : World) (hb : Below w.heap.size w W) :
    Calls Tryd.prog 14 #[E, .int .i64 K] W fun r w' => r = .returned (.bool true) ∧ Below W.heap.size W w' := by
  subst hE
  subst hK
  exact says e hg W hb
theorem rdfa_is {W : World} {v : Value} {d : Aut} (h : DfaAt W W.heap.size v d) {K : Int} (hK : ((dchk d : Nat) : Int) = K) : Calls Tryd.prog 6 #[v] W fun e w' => e = .returned (.int .i64 K) ∧ Below W.heap.size W w' :=
  (rdfa_any v d W h).mono fun e w' ⟨h1, h2⟩ => ⟨by rw [h1.out, hK], h2⟩
theorem rclass_is {W : World} {v : Value} {d : Aut} (h : DfaAt W W.heap.size v d) (hg : Df.Good d) {K : Int} (hK : ((classA d : Nat) : Int) = K) : Calls Tryd.prog 8 #[v] W fun e w' => e = .returned (.int .i64 K) ∧ Below W.heap.size W w' :=
  (rclass_any v d W h hg).mono fun e w' ⟨h1, h2⟩ => ⟨by rw [h1.out, hK], h2⟩
theorem kinds4 {k : Nat} (h : k < 4) : (k : Int) = 0 ∨ (k : Int) = 1 ∨ (k : Int) = 2 ∨ (k : Int) = 3 := by omega
/-- The sixteen cells of a list of four automata, whatever is made later. -/
theorem four_cells {K : Nat → Aut} {u wr : World} {g cap : Nat} {qs : List Q4} {fs : List Ent} (h : LK K u wr 4 (.slice (some ⟨g, 0, none⟩) 4 cap) qs fs) : ∃ L0 s0 A0 n0 c0 F0 m0 k0 L1 s1 A1 n1 c1 F1 m1 k1 L2 s2 A2 n2 c2 F2 m2 k2 L3 s3 A3 n3 c3 F3 m3 k3,
    Boxed wr g L0 s0 A0 n0 c0 F0 m0 k0 ∧ (g < wr.heap.size ∧ wr.cell? ⟨g, 4, none⟩ = some (.int .i64 L1) ∧ wr.cell? ⟨g, 5, none⟩ = some (.int .i64 s1) ∧ wr.cell? ⟨g, 6, none⟩ = some (.slice A1 n1 c1) ∧ wr.cell? ⟨g, 7, none⟩ = some (.slice F1 m1 k1)) ∧
    (wr.cell? ⟨g, 8, none⟩ = some (.int .i64 L2) ∧ wr.cell? ⟨g, 9, none⟩ = some (.int .i64 s2) ∧ wr.cell? ⟨g, 10, none⟩ = some (.slice A2 n2 c2) ∧ wr.cell? ⟨g, 11, none⟩ = some (.slice F2 m2 k2)) ∧
    (wr.cell? ⟨g, 12, none⟩ = some (.int .i64 L3) ∧ wr.cell? ⟨g, 13, none⟩ = some (.int .i64 s3) ∧ wr.cell? ⟨g, 14, none⟩ = some (.slice A3 n3 c3) ∧ wr.cell? ⟨g, 15, none⟩ = some (.slice F3 m3 k3)) ∧
    DfaAt wr wr.heap.size (.agg #[.int .i64 L0, .int .i64 s0, .slice A0 n0 c0, .slice F0 m0 k0]) (K 0) ∧ DfaAt wr wr.heap.size (.agg #[.int .i64 L1, .int .i64 s1, .slice A1 n1 c1, .slice F1 m1 k1]) (K 1) ∧
    DfaAt wr wr.heap.size (.agg #[.int .i64 L2, .int .i64 s2, .slice A2 n2 c2, .slice F2 m2 k2]) (K 2) ∧ DfaAt wr wr.heap.size (.agg #[.int .i64 L3, .int .i64 s3, .slice A3 n3 c3, .slice F3 m3 k3]) (K 3) := by
  obtain ⟨_, _, _, _, _, _, _, _, a1, b0, b1, b2, b3, bl⟩ := h.at_ (i := 0) (by omega)
  obtain ⟨_, _, _, _, _, _, _, _, a2, d0, d1, d2, d3, _⟩ := h.at_ (i := 1) (by omega)
  obtain ⟨_, _, _, _, _, _, _, _, a3, e0, e1, e2, e3, _⟩ := h.at_ (i := 2) (by omega)
  obtain ⟨_, _, _, _, _, _, _, _, a4, f0, f1, f2, f3, _⟩ := h.at_ (i := 3) (by omega)
  exact ⟨_, _, _, _, _, _, _, _, _, _, _, _, _, _, _, _, _, _, _, _, _, _, _, _, _, _, _, _, _, _, _, _, ⟨bl, b0, b1, b2, b3⟩, ⟨bl, d0, d1, d2, d3⟩, ⟨e0, e1, e2, e3⟩, ⟨f0, f1, f2, f3⟩, a1, a2, a3, a4⟩

set_option maxRecDepth 100000 in
set_option maxHeartbeats 4000000 in
theorem walk (v0 : Value) (d0 : Df.Aut) (w : World) (h0 : Df.DfaAt w w.heap.size v0 d0) (hg : w.cell? ⟨0, 0, none⟩ = some (.iface 137 (.agg #[.pointer (some ⟨1, 30, none⟩)]))) :
    Calls Tryd.prog 3 #[v0] w fun e w' => e = .returned (.bool true) ∧ Below w.heap.size w w' := by
  obtain ⟨L0, s0, A0, n0, c0, F0, m0, k0, rfl⟩ := h0.form
  have hN0 := h0.eqs.2.2.1
  obtain ⟨u0, hu0, hb0, VA0⟩ := var_new w h0
  have VA := Lib.hid VA0
  have B := Lib.hid hb0
  have W0 := Lib.hid hu0
  have HN0 := Lib.hid hN0
  clear VA0 hb0 hu0 h0 hN0
  clear HN0
  have HG := Lib.hid hg
  clear hg
  by_cases g1 : dchk d0 = 0
  · have Ga := dchk_iff.1 g1
    have HD := Lib.hid (fun W v (h : DfaAt W W.heap.size v d0) => rdfa_is h (K := 0) (by rw [g1]; rfl))
    obtain ⟨KF, hKF⟩ : ∃ KF : Nat → Aut, KF = fun (i : Nat) => safeK (i : Int) d0 := ⟨_, rfl⟩
    have HKF := Lib.hid hKF
    obtain ⟨CL, hCL⟩ : ∃ CL : Int, ((classA d0 : Nat) : Int) = CL := ⟨_, rfl⟩
    have hcc : (CL == CL) = true := beq_self_eq_true _
    have HSf := Lib.hid (fun (k : Nat) (hk : k < 4) W v (h : DfaAt W W.heap.size v d0) => rsafe_any (k : Int) (kinds4 hk) v d0 W h Ga)
    have HSc := Lib.hid (fun W v (h : DfaAt W W.heap.size v d0) => rclass_is h Ga hCL)
    have HCl := Lib.hid (fun W v (h : DfaAt W W.heap.size v d0) => cls_gives (E := .nilIface) h (clsOut_ok Ga) rfl)
    rw [hCL] at HCl
    have HE := Lib.hid (fun W (hb : Below w.heap.size w W) => says_gives HG.out 0 (E := .nilIface) (K := 0) rfl rfl W hb)
    have HPr := Lib.hid (fun W v (h : DfaAt W W.heap.size v d0) => pre_gives (E := .nilIface) h (mkO_ok Ga) rfl)
    have HAl := Lib.hid (fun W v (h : DfaAt W W.heap.size v d0) => always_gives (E := .nilIface) h (mkO_ok Ga) rfl)
    have HEv := Lib.hid (fun W v (h : DfaAt W W.heap.size v d0) => ever_gives (E := .nilIface) h (mkO_ok Ga) rfl)
    have HRe := Lib.hid (fun W v (h : DfaAt W W.heap.size v d0) => rest_gives (E := .nilIface) h (mkO_ok Ga) rfl)
    have HS0 := Lib.hid (fun W v z (h : DfaAt W W.heap.size v (preA d0)) (h2 : DfaAt W W.heap.size z (KF 0)) => same_gives h h2 (judge_good Ga).lite (by rw [HKF.out]; exact (safe_pre Ga).symm))
    have HS1 := Lib.hid (fun W v z (h : DfaAt W W.heap.size v (stopA false d0)) (h2 : DfaAt W W.heap.size z (KF 1)) => same_gives h h2 (stop_good Ga).lite (by rw [HKF.out]; exact (safe_always Ga).symm))
    have HS2 := Lib.hid (fun W v z (h : DfaAt W W.heap.size v (stopA true d0)) (h2 : DfaAt W W.heap.size z (KF 2)) => same_gives h h2 (stop_good Ga).lite (by rw [HKF.out]; exact (safe_ever Ga).symm))
    have HS3 := Lib.hid (fun W v z (h : DfaAt W W.heap.size v (restA d0)) (h2 : DfaAt W W.heap.size z (KF 3)) => same_gives h h2 (judge_good Ga).lite (by rw [HKF.out]; exact (safe_rest Ga).symm))
    clear hKF g1 Ga hCL HG
    generalize preA d0 = K0 at *
    generalize stopA false d0 = K1 at *
    generalize stopA true d0 = K2 at *
    generalize restA d0 = K3 at *
    go_enter Tryd.func3, Tryd.ntmps3
    obtain ⟨p0, p1, p2, p3, p4⟩ := VA.out.box
    go_wp2_with fail
    rw [← W0.out]
    clear W0
    refine (HD.out _ _ VA.out.at_).mono ?_
    rintro e u1 ⟨rfl, hb⟩
    have VA := Lib.hid (VA.out.on hb)
    have B := Lib.hid (B.out.trans (hb.mono B.out.size))
    clear hb p0 p1 p2 p3 p4 HD
    have HY : Hid (LK KF u1 u1 0 (.slice none 0 0) [] []) := lk_start _ _
    go_wp2
    go_loopw [4, 5, 6] (fun lv c i wr => ∃ (k : Nat), k ≤ 4 ∧ i = .int .i64 (k : Int) ∧ c = .int .i64 (if k = 0 then 0 else CL) ∧ Hid (∃ qs fs, LK KF u1 wr k lv qs fs)) (fun _ _ i _ => 4 - (intOf i).toNat)
    case atStart => exact ⟨0, by omega, rfl, rfl, _, _, HY.out⟩
    case round =>
      clear HY
      obtain ⟨k, hk, rfl, rfl, HS⟩ := hrel
      obtain ⟨qs, fs, hqs⟩ := HS.out
      have hbw := hqs.2.1.below
      have VA := Lib.hid (VA.out.on hbw)
      have B := Lib.hid (B.out.trans (hbw.mono B.out.size))
      have HS0 := Lib.hid hqs
      clear HS hqs hbw
      by_cases hlt : k < 4
      · have e1 : (k : Int) < 4 := by omega
        generalize (if k = 0 then (0 : Int) else CL) = cl0 at *
        obtain ⟨x1, hx1⟩ : ∃ W, W = wr.alloc (.cells #[.int .i64 0, .int .i64 0, .slice none 0 0, .slice none 0 0] 25) := ⟨_, rfl⟩
        have HO7 : Hid (Own wr x1 [eDfa wr.heap.size zero4] []) := by rw [hx1]; exact (own_start wr).dfa (.int .i64 0) (.int .i64 0) (.slice none 0 0) (.slice none 0 0)
        have VA1 := Lib.hid (VA.out.on HO7.out.below)
        obtain ⟨p0, p1, p2, p3, p4⟩ := VA1.out.box
        rw [hx1] at p1 p2 p3 p4
        have HX1 := Lib.hid hx1
        clear hx1
        go_wp2_with fail
        rw [← HX1.out]
        refine (HSf.out k hlt _ _ VA1.out.at_).mono ?_
        rintro e x2 he
        obtain ⟨xv, rfl, hxo⟩ := he.out
        obtain ⟨nv, fv, A9, n9, c9, F9, m9, k9, rfl, rfl, rfl⟩ := hxo.form
        have HIn := into_dfa HO7.out hxo
        have hpq := HO7.out.on hxo.below
        obtain ⟨g0, f0⟩ := hpq.dcell (g := wr.heap.size) (l := zero4) (j := 0) (by simp) rfl
        obtain ⟨g1, f1⟩ := hpq.dcell (g := wr.heap.size) (l := zero4) (j := 1) (by simp) rfl
        obtain ⟨g2, f2⟩ := hpq.dcell (g := wr.heap.size) (l := zero4) (j := 2) (by simp) rfl
        obtain ⟨g3, f3⟩ := hpq.dcell (g := wr.heap.size) (l := zero4) (j := 3) (by simp) rfl
        have hlw : wr.heap.size < x2.heap.size := (hpq.lt (ad := ⟨wr.heap.size, 0, none⟩) (xs := zero4) (t := 25) (sz := 4) (n := 1) (cap := 1) (by simp [eDfa])).2
        clear he hxo hpq p0 p1 p2 p3 p4 HX1 VA1 HO7
        obtain ⟨KA, hKA⟩ : ∃ KA, KA = safeK (k : Int) d0 := ⟨_, rfl⟩
        rw [← hKA] at HIn ⊢
        obtain ⟨hio, hcs⟩ := HIn
        obtain ⟨x3, hx3⟩ : ∃ W, W = (((x2.setCell ⟨wr.heap.size, 0, none⟩ (.int .i64 KA.L)).setCell ⟨wr.heap.size, 1, none⟩ (.int .i64 KA.s)).setCell ⟨wr.heap.size, 2, none⟩ (.slice A9 n9 c9)).setCell ⟨wr.heap.size, 3, none⟩ (.slice F9 m9 k9) := ⟨_, rfl⟩
        rw [← hx3] at hio hcs
        have hbq := hio.below
        have HBx : Hid (Boxed x3 wr.heap.size KA.L KA.s A9 n9 c9 F9 m9 k9) := ⟨by rw [hx3]; simpa using hlw, hcs 0 _ rfl, hcs 1 _ rfl, hcs 2 _ rfl, hcs 3 _ rfl⟩
        have VA := Lib.hid (VA.out.on hbq)
        obtain ⟨fs2, hlk, hhd⟩ := HS0.out.beside hio
        have HS1 := Lib.hid hlk
        have HQ : Hid (Held fs2 (KA.L, KA.s, (A9, n9, c9), (F9, m9, k9)) (KF k)) := by unfold Hid; rw [HKF.out]; show Held _ _ (safeK (k : Int) d0); rw [← hKA]; exact hhd
        obtain ⟨p0, p1, p2, p3, p4⟩ := VA.out.box
        rw [hx3] at p1 p2 p3 p4
        have HX3 := Lib.hid hx3
        clear hx3 hio hcs hbq HS0 hKA hlw hlk hhd
        go_wp2_with fail
        rw [← HX3.out]
        refine (HSc.out _ _ VA.out.at_).mono ?_
        rintro e x4 ⟨rfl, hb⟩
        have HBx := Lib.hid (HBx.out.on hb)
        have HS1 := Lib.hid (HS1.out.on hb)
        clear hb p0 p1 p2 p3 p4 HX3 g0 g1 g2 g3 f0 f1 f2 f3 VA
        obtain ⟨q0, q1, q2, q3, q4⟩ := HBx.out
        have hql : qs.length < 1099511627776 := by have := HS1.out.1; omega
        have HL1 := Lib.hid HS1.out.2.1
        generalize KA.L = L9 at *
        generalize KA.s = s9 at *
        go_wp2_with (at_builtin; refine own_aut (by rfl) _ _ (by rfl) (by rfl) HL1.out (by rfl) hql ?_)
        intro g5 cap5 w5 ho5
        have HE5 := Lib.hid (lk_snoc HS1.out ho5 HQ.out)
        clear ho5 HL1 HS1 HQ q0 q1 q2 q3 q4
        generalize qs.length = lq at *
        go_wp2
        go_roundw
        case rel => exact ⟨k + 1, by omega, by go_num, by simp, _, _, HE5.out⟩
        case measure => simp [intOf]; omega
      · obtain rfl : k = 4 := by omega
        obtain ⟨gl, cl, hlv⟩ := HS0.out.form (by omega)
        subst hlv
        have HLk := HS0
        clear HS0
        rw [if_neg (by omega)]
        obtain ⟨p0, p1, p2, p3, p4⟩ := VA.out.box
        go_wp2_with fail
        refine (HPr.out _ _ VA.out.at_).mono ?_
        rintro e u21 ⟨L31, s31, A31, n31, c31, F31, m31, k31, rfl, hd, hb⟩
        have HLk := Lib.hid (HLk.out.on hb)
        have VA := Lib.hid (VA.out.on hb)
        have B := Lib.hid (B.out.trans (hb.mono B.out.size))
        clear hb p0 p1 p2 p3 p4 HPr
        obtain ⟨x21, hx21, hbn, Vn⟩ := var_new u21 hd.out
        have VX := Lib.hid Vn
        have HLk := Lib.hid (HLk.out.on hbn)
        have VA := Lib.hid (VA.out.on hbn)
        have B := Lib.hid (B.out.trans (hbn.mono B.out.size))
        clear hbn Vn hd
        obtain ⟨p0, p1, p2, p3, p4⟩ := VA.out.box
        rw [hx21] at p1 p2 p3 p4
        have HX := Lib.hid hx21
        clear hx21
        go_wp2_with fail
        rw [← HX.out]
        clear HX
        refine (HAl.out _ _ VA.out.at_).mono ?_
        rintro e u22 ⟨L32, s32, A32, n32, c32, F32, m32, k32, rfl, hd, hb⟩
        have HLk := Lib.hid (HLk.out.on hb)
        have VA := Lib.hid (VA.out.on hb)
        have VX := Lib.hid (VX.out.on hb)
        have B := Lib.hid (B.out.trans (hb.mono B.out.size))
        clear hb p0 p1 p2 p3 p4 HAl
        obtain ⟨x22, hx22, hbn, Vn⟩ := var_new u22 hd.out
        have VY := Lib.hid Vn
        have HLk := Lib.hid (HLk.out.on hbn)
        have VA := Lib.hid (VA.out.on hbn)
        have VX := Lib.hid (VX.out.on hbn)
        have B := Lib.hid (B.out.trans (hbn.mono B.out.size))
        clear hbn Vn hd
        obtain ⟨p0, p1, p2, p3, p4⟩ := VA.out.box
        rw [hx22] at p1 p2 p3 p4
        have HX := Lib.hid hx22
        clear hx22
        go_wp2_with fail
        rw [← HX.out]
        clear HX
        refine (HEv.out _ _ VA.out.at_).mono ?_
        rintro e u23 ⟨L33, s33, A33, n33, c33, F33, m33, k33, rfl, hd, hb⟩
        have HLk := Lib.hid (HLk.out.on hb)
        have VA := Lib.hid (VA.out.on hb)
        have VX := Lib.hid (VX.out.on hb)
        have VY := Lib.hid (VY.out.on hb)
        have B := Lib.hid (B.out.trans (hb.mono B.out.size))
        clear hb p0 p1 p2 p3 p4 HEv
        obtain ⟨x23, hx23, hbn, Vn⟩ := var_new u23 hd.out
        have VZ := Lib.hid Vn
        have HLk := Lib.hid (HLk.out.on hbn)
        have VA := Lib.hid (VA.out.on hbn)
        have VX := Lib.hid (VX.out.on hbn)
        have VY := Lib.hid (VY.out.on hbn)
        have B := Lib.hid (B.out.trans (hbn.mono B.out.size))
        clear hbn Vn hd
        obtain ⟨p0, p1, p2, p3, p4⟩ := VA.out.box
        rw [hx23] at p1 p2 p3 p4
        have HX := Lib.hid hx23
        clear hx23
        go_wp2_with fail
        rw [← HX.out]
        clear HX
        refine (HRe.out _ _ VA.out.at_).mono ?_
        rintro e u24 ⟨L34, s34, A34, n34, c34, F34, m34, k34, rfl, hd, hb⟩
        have HLk := Lib.hid (HLk.out.on hb)
        have VA := Lib.hid (VA.out.on hb)
        have VX := Lib.hid (VX.out.on hb)
        have VY := Lib.hid (VY.out.on hb)
        have VZ := Lib.hid (VZ.out.on hb)
        have B := Lib.hid (B.out.trans (hb.mono B.out.size))
        clear hb p0 p1 p2 p3 p4 HRe
        obtain ⟨x24, hx24, hbn, Vn⟩ := var_new u24 hd.out
        have VT := Lib.hid Vn
        have HLk := Lib.hid (HLk.out.on hbn)
        have VA := Lib.hid (VA.out.on hbn)
        have VX := Lib.hid (VX.out.on hbn)
        have VY := Lib.hid (VY.out.on hbn)
        have VZ := Lib.hid (VZ.out.on hbn)
        have B := Lib.hid (B.out.trans (hbn.mono B.out.size))
        clear hbn Vn hd
        obtain ⟨p0, p1, p2, p3, p4⟩ := VA.out.box
        rw [hx24] at p1 p2 p3 p4
        have HX := Lib.hid hx24
        clear hx24
        go_wp2_with fail
        rw [← HX.out]
        clear HX
        refine (HCl.out _ _ VA.out.at_).mono ?_
        rintro e u25 ⟨rfl, hb⟩
        have HLk := Lib.hid (HLk.out.on hb)
        have VA := Lib.hid (VA.out.on hb)
        have VX := Lib.hid (VX.out.on hb)
        have VY := Lib.hid (VY.out.on hb)
        have VZ := Lib.hid (VZ.out.on hb)
        have VT := Lib.hid (VT.out.on hb)
        have B := Lib.hid (B.out.trans (hb.mono B.out.size))
        clear hb p0 p1 p2 p3 p4 HCl
        clear VA
        go_wp2_with fail
        refine (HE.out _ B.out).mono ?_
        rintro e u26 ⟨rfl, hb⟩
        have HLk := Lib.hid (HLk.out.on hb)
        have VX := Lib.hid (VX.out.on hb)
        have VY := Lib.hid (VY.out.on hb)
        have VZ := Lib.hid (VZ.out.on hb)
        have VT := Lib.hid (VT.out.on hb)
        have B := Lib.hid (B.out.trans (hb.mono B.out.size))
        clear hb  
        go_wp2_with fail
        refine (HE.out _ B.out).mono ?_
        rintro e u27 ⟨rfl, hb⟩
        have HLk := Lib.hid (HLk.out.on hb)
        have VX := Lib.hid (VX.out.on hb)
        have VY := Lib.hid (VY.out.on hb)
        have VZ := Lib.hid (VZ.out.on hb)
        have VT := Lib.hid (VT.out.on hb)
        have B := Lib.hid (B.out.trans (hb.mono B.out.size))
        clear hb  
        go_wp2_with fail
        refine (HE.out _ B.out).mono ?_
        rintro e u28 ⟨rfl, hb⟩
        have HLk := Lib.hid (HLk.out.on hb)
        have VX := Lib.hid (VX.out.on hb)
        have VY := Lib.hid (VY.out.on hb)
        have VZ := Lib.hid (VZ.out.on hb)
        have VT := Lib.hid (VT.out.on hb)
        have B := Lib.hid (B.out.trans (hb.mono B.out.size))
        clear hb  
        go_wp2_with fail
        refine (HE.out _ B.out).mono ?_
        rintro e u29 ⟨rfl, hb⟩
        have HLk := Lib.hid (HLk.out.on hb)
        have VX := Lib.hid (VX.out.on hb)
        have VY := Lib.hid (VY.out.on hb)
        have VZ := Lib.hid (VZ.out.on hb)
        have VT := Lib.hid (VT.out.on hb)
        have B := Lib.hid (B.out.trans (hb.mono B.out.size))
        clear hb  
        go_wp2_with fail
        refine (HE.out _ B.out).mono ?_
        rintro e u30 ⟨rfl, hb⟩
        have HLk := Lib.hid (HLk.out.on hb)
        have VX := Lib.hid (VX.out.on hb)
        have VY := Lib.hid (VY.out.on hb)
        have VZ := Lib.hid (VZ.out.on hb)
        have VT := Lib.hid (VT.out.on hb)
        have B := Lib.hid (B.out.trans (hb.mono B.out.size))
        clear hb  
        obtain ⟨M0, s0, A0, n0, c0, F0, m0, k0, M1, s1, A1, n1, c1, F1, m1, k1, M2, s2, A2, n2, c2, F2, m2, k2, M3, s3, A3, n3, c3, F3, m3, k3, ⟨gb, b0, b1, b2, b3⟩, ⟨_, d0, d1, d2, d3⟩, ⟨e0, e1, e2, e3⟩, ⟨f0, f1, f2, f3⟩, a0, a1, a2, a3⟩ := four_cells HLk.out
        have HL0 := Lib.hid a0
        have HL1 := Lib.hid a1
        have HL2 := Lib.hid a2
        have HL3 := Lib.hid a3
        clear a0 a1 a2 a3
        have HK : Hid (∀ W, Below u30.heap.size u30 W → (W.cell? ⟨u21.heap.size, 0, none⟩ = some (.int .i64 L31) ∧ W.cell? ⟨u21.heap.size, 1, none⟩ = some (.int .i64 s31) ∧ W.cell? ⟨u21.heap.size, 2, none⟩ = some (.slice A31 n31 c31) ∧ W.cell? ⟨u21.heap.size, 3, none⟩ = some (.slice F31 m31 k31)) ∧ (W.cell? ⟨u22.heap.size, 0, none⟩ = some (.int .i64 L32) ∧ W.cell? ⟨u22.heap.size, 1, none⟩ = some (.int .i64 s32) ∧ W.cell? ⟨u22.heap.size, 2, none⟩ = some (.slice A32 n32 c32) ∧ W.cell? ⟨u22.heap.size, 3, none⟩ = some (.slice F32 m32 k32)) ∧ (W.cell? ⟨u23.heap.size, 0, none⟩ = some (.int .i64 L33) ∧ W.cell? ⟨u23.heap.size, 1, none⟩ = some (.int .i64 s33) ∧ W.cell? ⟨u23.heap.size, 2, none⟩ = some (.slice A33 n33 c33) ∧ W.cell? ⟨u23.heap.size, 3, none⟩ = some (.slice F33 m33 k33)) ∧ (W.cell? ⟨u24.heap.size, 0, none⟩ = some (.int .i64 L34) ∧ W.cell? ⟨u24.heap.size, 1, none⟩ = some (.int .i64 s34) ∧ W.cell? ⟨u24.heap.size, 2, none⟩ = some (.slice A34 n34 c34) ∧ W.cell? ⟨u24.heap.size, 3, none⟩ = some (.slice F34 m34 k34)) ∧ (W.cell? ⟨gl, 0, none⟩ = some (.int .i64 M0) ∧ W.cell? ⟨gl, 1, none⟩ = some (.int .i64 s0) ∧ W.cell? ⟨gl, 2, none⟩ = some (.slice A0 n0 c0) ∧ W.cell? ⟨gl, 3, none⟩ = some (.slice F0 m0 k0)) ∧ (W.cell? ⟨gl, 4, none⟩ = some (.int .i64 M1) ∧ W.cell? ⟨gl, 5, none⟩ = some (.int .i64 s1) ∧ W.cell? ⟨gl, 6, none⟩ = some (.slice A1 n1 c1) ∧ W.cell? ⟨gl, 7, none⟩ = some (.slice F1 m1 k1)) ∧ (W.cell? ⟨gl, 8, none⟩ = some (.int .i64 M2) ∧ W.cell? ⟨gl, 9, none⟩ = some (.int .i64 s2) ∧ W.cell? ⟨gl, 10, none⟩ = some (.slice A2 n2 c2) ∧ W.cell? ⟨gl, 11, none⟩ = some (.slice F2 m2 k2)) ∧ (W.cell? ⟨gl, 12, none⟩ = some (.int .i64 M3) ∧ W.cell? ⟨gl, 13, none⟩ = some (.int .i64 s3) ∧ W.cell? ⟨gl, 14, none⟩ = some (.slice A3 n3 c3) ∧ W.cell? ⟨gl, 15, none⟩ = some (.slice F3 m3 k3))) := fun W hW => ⟨⟨(VX.out.box.on hW).c0, (VX.out.box.on hW).c1, (VX.out.box.on hW).c2, (VX.out.box.on hW).c3⟩, ⟨(VY.out.box.on hW).c0, (VY.out.box.on hW).c1, (VY.out.box.on hW).c2, (VY.out.box.on hW).c3⟩, ⟨(VZ.out.box.on hW).c0, (VZ.out.box.on hW).c1, (VZ.out.box.on hW).c2, (VZ.out.box.on hW).c3⟩, ⟨(VT.out.box.on hW).c0, (VT.out.box.on hW).c1, (VT.out.box.on hW).c2, (VT.out.box.on hW).c3⟩, ⟨(hW.cell (p := ⟨gl, _, none⟩) gb).trans b0, (hW.cell (p := ⟨gl, _, none⟩) gb).trans b1, (hW.cell (p := ⟨gl, _, none⟩) gb).trans b2, (hW.cell (p := ⟨gl, _, none⟩) gb).trans b3⟩, ⟨(hW.cell (p := ⟨gl, _, none⟩) gb).trans d0, (hW.cell (p := ⟨gl, _, none⟩) gb).trans d1, (hW.cell (p := ⟨gl, _, none⟩) gb).trans d2, (hW.cell (p := ⟨gl, _, none⟩) gb).trans d3⟩, ⟨(hW.cell (p := ⟨gl, _, none⟩) gb).trans e0, (hW.cell (p := ⟨gl, _, none⟩) gb).trans e1, (hW.cell (p := ⟨gl, _, none⟩) gb).trans e2, (hW.cell (p := ⟨gl, _, none⟩) gb).trans e3⟩, ⟨(hW.cell (p := ⟨gl, _, none⟩) gb).trans f0, (hW.cell (p := ⟨gl, _, none⟩) gb).trans f1, (hW.cell (p := ⟨gl, _, none⟩) gb).trans f2, (hW.cell (p := ⟨gl, _, none⟩) gb).trans f3⟩⟩
        have HDr : Hid (Below u30.heap.size u30 u30.drew) := (Below.refl _ _).drew
        clear gb b0 b1 b2 b3 d0 d1 d2 d3 e0 e1 e2 e3 f0 f1 f2 f3 HLk
        go_wp2_with fail
        go_region_held3 (fun W => (W.cell? ⟨u21.heap.size, 0, none⟩ = some (.int .i64 L31) ∧ W.cell? ⟨u21.heap.size, 1, none⟩ = some (.int .i64 s31) ∧ W.cell? ⟨u21.heap.size, 2, none⟩ = some (.slice A31 n31 c31) ∧ W.cell? ⟨u21.heap.size, 3, none⟩ = some (.slice F31 m31 k31)) ∧ (W.cell? ⟨u22.heap.size, 0, none⟩ = some (.int .i64 L32) ∧ W.cell? ⟨u22.heap.size, 1, none⟩ = some (.int .i64 s32) ∧ W.cell? ⟨u22.heap.size, 2, none⟩ = some (.slice A32 n32 c32) ∧ W.cell? ⟨u22.heap.size, 3, none⟩ = some (.slice F32 m32 k32)) ∧ (W.cell? ⟨u23.heap.size, 0, none⟩ = some (.int .i64 L33) ∧ W.cell? ⟨u23.heap.size, 1, none⟩ = some (.int .i64 s33) ∧ W.cell? ⟨u23.heap.size, 2, none⟩ = some (.slice A33 n33 c33) ∧ W.cell? ⟨u23.heap.size, 3, none⟩ = some (.slice F33 m33 k33)) ∧ (W.cell? ⟨u24.heap.size, 0, none⟩ = some (.int .i64 L34) ∧ W.cell? ⟨u24.heap.size, 1, none⟩ = some (.int .i64 s34) ∧ W.cell? ⟨u24.heap.size, 2, none⟩ = some (.slice A34 n34 c34) ∧ W.cell? ⟨u24.heap.size, 3, none⟩ = some (.slice F34 m34 k34)) ∧ (W.cell? ⟨gl, 0, none⟩ = some (.int .i64 M0) ∧ W.cell? ⟨gl, 1, none⟩ = some (.int .i64 s0) ∧ W.cell? ⟨gl, 2, none⟩ = some (.slice A0 n0 c0) ∧ W.cell? ⟨gl, 3, none⟩ = some (.slice F0 m0 k0)) ∧ (W.cell? ⟨gl, 4, none⟩ = some (.int .i64 M1) ∧ W.cell? ⟨gl, 5, none⟩ = some (.int .i64 s1) ∧ W.cell? ⟨gl, 6, none⟩ = some (.slice A1 n1 c1) ∧ W.cell? ⟨gl, 7, none⟩ = some (.slice F1 m1 k1)) ∧ (W.cell? ⟨gl, 8, none⟩ = some (.int .i64 M2) ∧ W.cell? ⟨gl, 9, none⟩ = some (.int .i64 s2) ∧ W.cell? ⟨gl, 10, none⟩ = some (.slice A2 n2 c2) ∧ W.cell? ⟨gl, 11, none⟩ = some (.slice F2 m2 k2)) ∧ (W.cell? ⟨gl, 12, none⟩ = some (.int .i64 M3) ∧ W.cell? ⟨gl, 13, none⟩ = some (.int .i64 s3) ∧ W.cell? ⟨gl, 14, none⟩ = some (.slice A3 n3 c3) ∧ W.cell? ⟨gl, 15, none⟩ = some (.slice F3 m3 k3)))
          (first | exact HK.out _ HB4.out | exact HK.out _ HB3.out | exact HK.out _ HB2.out | exact HK.out _ HB1.out | exact HK.out _ HDr.out)
          (first | (go_at_call 15; refine (HS3.out _ _ _ (VT.out.at_.on HB3.out) (HL3.out.on HB3.out)).mono ?_; rintro e w43 ⟨rfl, hb⟩; have HB4 := Lib.hid (HB3.out.trans (hb.mono HB3.out.size)); clear hb) | (go_at_call 15; refine (HS2.out _ _ _ (VZ.out.at_.on HB2.out) (HL2.out.on HB2.out)).mono ?_; rintro e w42 ⟨rfl, hb⟩; have HB3 := Lib.hid (HB2.out.trans (hb.mono HB2.out.size)); clear hb) | (go_at_call 15; refine (HS1.out _ _ _ (VY.out.at_.on HB1.out) (HL1.out.on HB1.out)).mono ?_; rintro e w41 ⟨rfl, hb⟩; have HB2 := Lib.hid (HB1.out.trans (hb.mono HB1.out.size)); clear hb) | (go_at_call 15; refine (HS0.out _ _ _ (VX.out.at_.on HDr.out) (HL0.out.on HDr.out)).mono ?_; rintro e w40 ⟨rfl, hb⟩; have HB1 := Lib.hid (HDr.out.trans (hb.mono HDr.out.size)); clear hb))
        all_goals
          have B9 := Lib.hid (B.out.trans (HB4.out.mono B.out.size))
          clear HB1 HB2 HB3 HB4 HK HDr
          go_wp2
          go_ret
          exact ⟨rfl, B9.out⟩
  · obtain ⟨E, hE⟩ := errV_bad g1
    have hEK : ((dchk d0 : Nat) : Int) = E := by
      rcases h : dchk d0 with _ | n
      · exact absurd h g1
      · rw [h] at hE; simpa [errV] using hE
    have HD := Lib.hid (fun W v (h : DfaAt W W.heap.size v d0) => rdfa_is h hEK)
    have hE0 : (E == 0) = false := int_ne (by omega)
    obtain ⟨KF, hKF⟩ : ∃ KF : Nat → Aut, KF = fun (_ : Nat) => zeroA := ⟨_, rfl⟩
    have HKF := Lib.hid hKF
    have HCl := Lib.hid (fun W v (h : DfaAt W W.heap.size v d0) => cls_gives h (clsOut_bad g1) hE)
    have HE := Lib.hid (fun W (hb : Below w.heap.size w W) => says_gives HG.out (dchk d0) (E := errI E) (K := E) hE hEK W hb)
    have HPr := Lib.hid (fun W v (h : DfaAt W W.heap.size v d0) => pre_gives h (mkO_bad (K := preA) g1) hE)
    have HAl := Lib.hid (fun W v (h : DfaAt W W.heap.size v d0) => always_gives h (mkO_bad (K := (stopA false)) g1) hE)
    have HEv := Lib.hid (fun W v (h : DfaAt W W.heap.size v d0) => ever_gives h (mkO_bad (K := (stopA true)) g1) hE)
    have HRe := Lib.hid (fun W v (h : DfaAt W W.heap.size v d0) => rest_gives h (mkO_bad (K := restA) g1) hE)
    have HS0 := Lib.hid (fun W v z (h : DfaAt W W.heap.size v zeroA) (h2 : DfaAt W W.heap.size z (KF 0)) => same_gives h h2 lite_zero (by rw [HKF.out]))
    have HS1 := Lib.hid (fun W v z (h : DfaAt W W.heap.size v zeroA) (h2 : DfaAt W W.heap.size z (KF 1)) => same_gives h h2 lite_zero (by rw [HKF.out]))
    have HS2 := Lib.hid (fun W v z (h : DfaAt W W.heap.size v zeroA) (h2 : DfaAt W W.heap.size z (KF 2)) => same_gives h h2 lite_zero (by rw [HKF.out]))
    have HS3 := Lib.hid (fun W v z (h : DfaAt W W.heap.size v zeroA) (h2 : DfaAt W W.heap.size z (KF 3)) => same_gives h h2 lite_zero (by rw [HKF.out]))
    clear hKF g1 hE hEK HG
    go_enter Tryd.func3, Tryd.ntmps3
    obtain ⟨p0, p1, p2, p3, p4⟩ := VA.out.box
    go_wp2_with fail
    rw [← W0.out]
    clear W0
    refine (HD.out _ _ VA.out.at_).mono ?_
    rintro e u1 ⟨rfl, hb⟩
    have VA := Lib.hid (VA.out.on hb)
    have B := Lib.hid (B.out.trans (hb.mono B.out.size))
    clear hb p0 p1 p2 p3 p4 HD
    have HY : Hid (LK KF u1 u1 0 (.slice none 0 0) [] []) := lk_start _ _
    go_wp2
    go_loopw [4, 5, 6] (fun lv c i wr => ∃ (k : Nat), k ≤ 4 ∧ i = .int .i64 (k : Int) ∧ c = .int .i64 0 ∧ Hid (∃ qs fs, LK KF u1 wr k lv qs fs)) (fun _ _ i _ => 4 - (intOf i).toNat)
    case atStart => exact ⟨0, by omega, rfl, rfl, _, _, HY.out⟩
    case round =>
      clear HY
      obtain ⟨k, hk, rfl, rfl, HS⟩ := hrel
      obtain ⟨qs, fs, hqs⟩ := HS.out
      have hbw := hqs.2.1.below
      have VA := Lib.hid (VA.out.on hbw)
      have B := Lib.hid (B.out.trans (hbw.mono B.out.size))
      have HS0 := Lib.hid hqs
      clear HS hqs hbw
      by_cases hlt : k < 4
      · have e1 : (k : Int) < 4 := by omega
        have hql : qs.length < 1099511627776 := by have := HS0.out.1; omega
        have HS1 := Lib.hid (HS0.out.on (below_alloc wr (.cells #[.int .i64 0, .int .i64 0, .slice none 0 0, .slice none 0 0] 25)))
        have HL1 := Lib.hid HS1.out.2.1
        have HSz : Hid ((wr.alloc (.cells #[.int .i64 0, .int .i64 0, .slice none 0 0, .slice none 0 0] 25)).heap.size = wr.heap.size + 1) := by unfold Hid; simp
        have HQ : Hid (Held fs (0, 0, (none, 0, 0), (none, 0, 0)) (KF k)) := by unfold Hid; rw [HKF.out]; exact held_zero fs
        clear HS0
        go_wp2_with (at_builtin; refine own_aut (by rfl) _ _ (by rfl) (by rfl) HL1.out (by rw [HSz.out]; rfl) hql ?_)
        intro g5 cap5 w5 ho5
        have HE5 := Lib.hid (lk_snoc HS1.out ho5 HQ.out)
        clear ho5 HL1 HS1 HQ HSz
        generalize qs.length = lq at *
        go_wp2
        go_roundw
        case rel => exact ⟨k + 1, by omega, by go_num, rfl, _, _, HE5.out⟩
        case measure => simp [intOf]; omega
      · obtain rfl : k = 4 := by omega
        obtain ⟨gl, cl, hlv⟩ := HS0.out.form (by omega)
        subst hlv
        have HLk := HS0
        clear HS0
        obtain ⟨p0, p1, p2, p3, p4⟩ := VA.out.box
        go_wp2_with fail
        refine (HPr.out _ _ VA.out.at_).mono ?_
        rintro e u21 ⟨L31, s31, A31, n31, c31, F31, m31, k31, rfl, hd, hb⟩
        have HLk := Lib.hid (HLk.out.on hb)
        have VA := Lib.hid (VA.out.on hb)
        have B := Lib.hid (B.out.trans (hb.mono B.out.size))
        clear hb p0 p1 p2 p3 p4 HPr
        obtain ⟨x21, hx21, hbn, Vn⟩ := var_new u21 hd.out
        have VX := Lib.hid Vn
        have HLk := Lib.hid (HLk.out.on hbn)
        have VA := Lib.hid (VA.out.on hbn)
        have B := Lib.hid (B.out.trans (hbn.mono B.out.size))
        clear hbn Vn hd
        obtain ⟨p0, p1, p2, p3, p4⟩ := VA.out.box
        rw [hx21] at p1 p2 p3 p4
        have HX := Lib.hid hx21
        clear hx21
        go_wp2_with fail
        rw [← HX.out]
        clear HX
        refine (HAl.out _ _ VA.out.at_).mono ?_
        rintro e u22 ⟨L32, s32, A32, n32, c32, F32, m32, k32, rfl, hd, hb⟩
        have HLk := Lib.hid (HLk.out.on hb)
        have VA := Lib.hid (VA.out.on hb)
        have VX := Lib.hid (VX.out.on hb)
        have B := Lib.hid (B.out.trans (hb.mono B.out.size))
        clear hb p0 p1 p2 p3 p4 HAl
        obtain ⟨x22, hx22, hbn, Vn⟩ := var_new u22 hd.out
        have VY := Lib.hid Vn
        have HLk := Lib.hid (HLk.out.on hbn)
        have VA := Lib.hid (VA.out.on hbn)
        have VX := Lib.hid (VX.out.on hbn)
        have B := Lib.hid (B.out.trans (hbn.mono B.out.size))
        clear hbn Vn hd
        obtain ⟨p0, p1, p2, p3, p4⟩ := VA.out.box
        rw [hx22] at p1 p2 p3 p4
        have HX := Lib.hid hx22
        clear hx22
        go_wp2_with fail
        rw [← HX.out]
        clear HX
        refine (HEv.out _ _ VA.out.at_).mono ?_
        rintro e u23 ⟨L33, s33, A33, n33, c33, F33, m33, k33, rfl, hd, hb⟩
        have HLk := Lib.hid (HLk.out.on hb)
        have VA := Lib.hid (VA.out.on hb)
        have VX := Lib.hid (VX.out.on hb)
        have VY := Lib.hid (VY.out.on hb)
        have B := Lib.hid (B.out.trans (hb.mono B.out.size))
        clear hb p0 p1 p2 p3 p4 HEv
        obtain ⟨x23, hx23, hbn, Vn⟩ := var_new u23 hd.out
        have VZ := Lib.hid Vn
        have HLk := Lib.hid (HLk.out.on hbn)
        have VA := Lib.hid (VA.out.on hbn)
        have VX := Lib.hid (VX.out.on hbn)
        have VY := Lib.hid (VY.out.on hbn)
        have B := Lib.hid (B.out.trans (hbn.mono B.out.size))
        clear hbn Vn hd
        obtain ⟨p0, p1, p2, p3, p4⟩ := VA.out.box
        rw [hx23] at p1 p2 p3 p4
        have HX := Lib.hid hx23
        clear hx23
        go_wp2_with fail
        rw [← HX.out]
        clear HX
        refine (HRe.out _ _ VA.out.at_).mono ?_
        rintro e u24 ⟨L34, s34, A34, n34, c34, F34, m34, k34, rfl, hd, hb⟩
        have HLk := Lib.hid (HLk.out.on hb)
        have VA := Lib.hid (VA.out.on hb)
        have VX := Lib.hid (VX.out.on hb)
        have VY := Lib.hid (VY.out.on hb)
        have VZ := Lib.hid (VZ.out.on hb)
        have B := Lib.hid (B.out.trans (hb.mono B.out.size))
        clear hb p0 p1 p2 p3 p4 HRe
        obtain ⟨x24, hx24, hbn, Vn⟩ := var_new u24 hd.out
        have VT := Lib.hid Vn
        have HLk := Lib.hid (HLk.out.on hbn)
        have VA := Lib.hid (VA.out.on hbn)
        have VX := Lib.hid (VX.out.on hbn)
        have VY := Lib.hid (VY.out.on hbn)
        have VZ := Lib.hid (VZ.out.on hbn)
        have B := Lib.hid (B.out.trans (hbn.mono B.out.size))
        clear hbn Vn hd
        obtain ⟨p0, p1, p2, p3, p4⟩ := VA.out.box
        rw [hx24] at p1 p2 p3 p4
        have HX := Lib.hid hx24
        clear hx24
        go_wp2_with fail
        rw [← HX.out]
        clear HX
        refine (HCl.out _ _ VA.out.at_).mono ?_
        rintro e u25 ⟨rfl, hb⟩
        have HLk := Lib.hid (HLk.out.on hb)
        have VA := Lib.hid (VA.out.on hb)
        have VX := Lib.hid (VX.out.on hb)
        have VY := Lib.hid (VY.out.on hb)
        have VZ := Lib.hid (VZ.out.on hb)
        have VT := Lib.hid (VT.out.on hb)
        have B := Lib.hid (B.out.trans (hb.mono B.out.size))
        clear hb p0 p1 p2 p3 p4 HCl
        clear VA
        go_wp2_with fail
        refine (HE.out _ B.out).mono ?_
        rintro e u26 ⟨rfl, hb⟩
        have HLk := Lib.hid (HLk.out.on hb)
        have VX := Lib.hid (VX.out.on hb)
        have VY := Lib.hid (VY.out.on hb)
        have VZ := Lib.hid (VZ.out.on hb)
        have VT := Lib.hid (VT.out.on hb)
        have B := Lib.hid (B.out.trans (hb.mono B.out.size))
        clear hb  
        go_wp2_with fail
        refine (HE.out _ B.out).mono ?_
        rintro e u27 ⟨rfl, hb⟩
        have HLk := Lib.hid (HLk.out.on hb)
        have VX := Lib.hid (VX.out.on hb)
        have VY := Lib.hid (VY.out.on hb)
        have VZ := Lib.hid (VZ.out.on hb)
        have VT := Lib.hid (VT.out.on hb)
        have B := Lib.hid (B.out.trans (hb.mono B.out.size))
        clear hb  
        go_wp2_with fail
        refine (HE.out _ B.out).mono ?_
        rintro e u28 ⟨rfl, hb⟩
        have HLk := Lib.hid (HLk.out.on hb)
        have VX := Lib.hid (VX.out.on hb)
        have VY := Lib.hid (VY.out.on hb)
        have VZ := Lib.hid (VZ.out.on hb)
        have VT := Lib.hid (VT.out.on hb)
        have B := Lib.hid (B.out.trans (hb.mono B.out.size))
        clear hb  
        go_wp2_with fail
        refine (HE.out _ B.out).mono ?_
        rintro e u29 ⟨rfl, hb⟩
        have HLk := Lib.hid (HLk.out.on hb)
        have VX := Lib.hid (VX.out.on hb)
        have VY := Lib.hid (VY.out.on hb)
        have VZ := Lib.hid (VZ.out.on hb)
        have VT := Lib.hid (VT.out.on hb)
        have B := Lib.hid (B.out.trans (hb.mono B.out.size))
        clear hb  
        go_wp2_with fail
        refine (HE.out _ B.out).mono ?_
        rintro e u30 ⟨rfl, hb⟩
        have HLk := Lib.hid (HLk.out.on hb)
        have VX := Lib.hid (VX.out.on hb)
        have VY := Lib.hid (VY.out.on hb)
        have VZ := Lib.hid (VZ.out.on hb)
        have VT := Lib.hid (VT.out.on hb)
        have B := Lib.hid (B.out.trans (hb.mono B.out.size))
        clear hb  
        obtain ⟨M0, s0, A0, n0, c0, F0, m0, k0, M1, s1, A1, n1, c1, F1, m1, k1, M2, s2, A2, n2, c2, F2, m2, k2, M3, s3, A3, n3, c3, F3, m3, k3, ⟨gb, b0, b1, b2, b3⟩, ⟨_, d0, d1, d2, d3⟩, ⟨e0, e1, e2, e3⟩, ⟨f0, f1, f2, f3⟩, a0, a1, a2, a3⟩ := four_cells HLk.out
        have HL0 := Lib.hid a0
        have HL1 := Lib.hid a1
        have HL2 := Lib.hid a2
        have HL3 := Lib.hid a3
        clear a0 a1 a2 a3
        have HK : Hid (∀ W, Below u30.heap.size u30 W → (W.cell? ⟨u21.heap.size, 0, none⟩ = some (.int .i64 L31) ∧ W.cell? ⟨u21.heap.size, 1, none⟩ = some (.int .i64 s31) ∧ W.cell? ⟨u21.heap.size, 2, none⟩ = some (.slice A31 n31 c31) ∧ W.cell? ⟨u21.heap.size, 3, none⟩ = some (.slice F31 m31 k31)) ∧ (W.cell? ⟨u22.heap.size, 0, none⟩ = some (.int .i64 L32) ∧ W.cell? ⟨u22.heap.size, 1, none⟩ = some (.int .i64 s32) ∧ W.cell? ⟨u22.heap.size, 2, none⟩ = some (.slice A32 n32 c32) ∧ W.cell? ⟨u22.heap.size, 3, none⟩ = some (.slice F32 m32 k32)) ∧ (W.cell? ⟨u23.heap.size, 0, none⟩ = some (.int .i64 L33) ∧ W.cell? ⟨u23.heap.size, 1, none⟩ = some (.int .i64 s33) ∧ W.cell? ⟨u23.heap.size, 2, none⟩ = some (.slice A33 n33 c33) ∧ W.cell? ⟨u23.heap.size, 3, none⟩ = some (.slice F33 m33 k33)) ∧ (W.cell? ⟨u24.heap.size, 0, none⟩ = some (.int .i64 L34) ∧ W.cell? ⟨u24.heap.size, 1, none⟩ = some (.int .i64 s34) ∧ W.cell? ⟨u24.heap.size, 2, none⟩ = some (.slice A34 n34 c34) ∧ W.cell? ⟨u24.heap.size, 3, none⟩ = some (.slice F34 m34 k34)) ∧ (W.cell? ⟨gl, 0, none⟩ = some (.int .i64 M0) ∧ W.cell? ⟨gl, 1, none⟩ = some (.int .i64 s0) ∧ W.cell? ⟨gl, 2, none⟩ = some (.slice A0 n0 c0) ∧ W.cell? ⟨gl, 3, none⟩ = some (.slice F0 m0 k0)) ∧ (W.cell? ⟨gl, 4, none⟩ = some (.int .i64 M1) ∧ W.cell? ⟨gl, 5, none⟩ = some (.int .i64 s1) ∧ W.cell? ⟨gl, 6, none⟩ = some (.slice A1 n1 c1) ∧ W.cell? ⟨gl, 7, none⟩ = some (.slice F1 m1 k1)) ∧ (W.cell? ⟨gl, 8, none⟩ = some (.int .i64 M2) ∧ W.cell? ⟨gl, 9, none⟩ = some (.int .i64 s2) ∧ W.cell? ⟨gl, 10, none⟩ = some (.slice A2 n2 c2) ∧ W.cell? ⟨gl, 11, none⟩ = some (.slice F2 m2 k2)) ∧ (W.cell? ⟨gl, 12, none⟩ = some (.int .i64 M3) ∧ W.cell? ⟨gl, 13, none⟩ = some (.int .i64 s3) ∧ W.cell? ⟨gl, 14, none⟩ = some (.slice A3 n3 c3) ∧ W.cell? ⟨gl, 15, none⟩ = some (.slice F3 m3 k3))) := fun W hW => ⟨⟨(VX.out.box.on hW).c0, (VX.out.box.on hW).c1, (VX.out.box.on hW).c2, (VX.out.box.on hW).c3⟩, ⟨(VY.out.box.on hW).c0, (VY.out.box.on hW).c1, (VY.out.box.on hW).c2, (VY.out.box.on hW).c3⟩, ⟨(VZ.out.box.on hW).c0, (VZ.out.box.on hW).c1, (VZ.out.box.on hW).c2, (VZ.out.box.on hW).c3⟩, ⟨(VT.out.box.on hW).c0, (VT.out.box.on hW).c1, (VT.out.box.on hW).c2, (VT.out.box.on hW).c3⟩, ⟨(hW.cell (p := ⟨gl, _, none⟩) gb).trans b0, (hW.cell (p := ⟨gl, _, none⟩) gb).trans b1, (hW.cell (p := ⟨gl, _, none⟩) gb).trans b2, (hW.cell (p := ⟨gl, _, none⟩) gb).trans b3⟩, ⟨(hW.cell (p := ⟨gl, _, none⟩) gb).trans d0, (hW.cell (p := ⟨gl, _, none⟩) gb).trans d1, (hW.cell (p := ⟨gl, _, none⟩) gb).trans d2, (hW.cell (p := ⟨gl, _, none⟩) gb).trans d3⟩, ⟨(hW.cell (p := ⟨gl, _, none⟩) gb).trans e0, (hW.cell (p := ⟨gl, _, none⟩) gb).trans e1, (hW.cell (p := ⟨gl, _, none⟩) gb).trans e2, (hW.cell (p := ⟨gl, _, none⟩) gb).trans e3⟩, ⟨(hW.cell (p := ⟨gl, _, none⟩) gb).trans f0, (hW.cell (p := ⟨gl, _, none⟩) gb).trans f1, (hW.cell (p := ⟨gl, _, none⟩) gb).trans f2, (hW.cell (p := ⟨gl, _, none⟩) gb).trans f3⟩⟩
        have HDr : Hid (Below u30.heap.size u30 u30.drew) := (Below.refl _ _).drew
        clear gb b0 b1 b2 b3 d0 d1 d2 d3 e0 e1 e2 e3 f0 f1 f2 f3 HLk
        go_wp2_with fail
        go_region_held3 (fun W => (W.cell? ⟨u21.heap.size, 0, none⟩ = some (.int .i64 L31) ∧ W.cell? ⟨u21.heap.size, 1, none⟩ = some (.int .i64 s31) ∧ W.cell? ⟨u21.heap.size, 2, none⟩ = some (.slice A31 n31 c31) ∧ W.cell? ⟨u21.heap.size, 3, none⟩ = some (.slice F31 m31 k31)) ∧ (W.cell? ⟨u22.heap.size, 0, none⟩ = some (.int .i64 L32) ∧ W.cell? ⟨u22.heap.size, 1, none⟩ = some (.int .i64 s32) ∧ W.cell? ⟨u22.heap.size, 2, none⟩ = some (.slice A32 n32 c32) ∧ W.cell? ⟨u22.heap.size, 3, none⟩ = some (.slice F32 m32 k32)) ∧ (W.cell? ⟨u23.heap.size, 0, none⟩ = some (.int .i64 L33) ∧ W.cell? ⟨u23.heap.size, 1, none⟩ = some (.int .i64 s33) ∧ W.cell? ⟨u23.heap.size, 2, none⟩ = some (.slice A33 n33 c33) ∧ W.cell? ⟨u23.heap.size, 3, none⟩ = some (.slice F33 m33 k33)) ∧ (W.cell? ⟨u24.heap.size, 0, none⟩ = some (.int .i64 L34) ∧ W.cell? ⟨u24.heap.size, 1, none⟩ = some (.int .i64 s34) ∧ W.cell? ⟨u24.heap.size, 2, none⟩ = some (.slice A34 n34 c34) ∧ W.cell? ⟨u24.heap.size, 3, none⟩ = some (.slice F34 m34 k34)) ∧ (W.cell? ⟨gl, 0, none⟩ = some (.int .i64 M0) ∧ W.cell? ⟨gl, 1, none⟩ = some (.int .i64 s0) ∧ W.cell? ⟨gl, 2, none⟩ = some (.slice A0 n0 c0) ∧ W.cell? ⟨gl, 3, none⟩ = some (.slice F0 m0 k0)) ∧ (W.cell? ⟨gl, 4, none⟩ = some (.int .i64 M1) ∧ W.cell? ⟨gl, 5, none⟩ = some (.int .i64 s1) ∧ W.cell? ⟨gl, 6, none⟩ = some (.slice A1 n1 c1) ∧ W.cell? ⟨gl, 7, none⟩ = some (.slice F1 m1 k1)) ∧ (W.cell? ⟨gl, 8, none⟩ = some (.int .i64 M2) ∧ W.cell? ⟨gl, 9, none⟩ = some (.int .i64 s2) ∧ W.cell? ⟨gl, 10, none⟩ = some (.slice A2 n2 c2) ∧ W.cell? ⟨gl, 11, none⟩ = some (.slice F2 m2 k2)) ∧ (W.cell? ⟨gl, 12, none⟩ = some (.int .i64 M3) ∧ W.cell? ⟨gl, 13, none⟩ = some (.int .i64 s3) ∧ W.cell? ⟨gl, 14, none⟩ = some (.slice A3 n3 c3) ∧ W.cell? ⟨gl, 15, none⟩ = some (.slice F3 m3 k3)))
          (first | exact HK.out _ HB4.out | exact HK.out _ HB3.out | exact HK.out _ HB2.out | exact HK.out _ HB1.out | exact HK.out _ HDr.out)
          (first | (go_at_call 15; refine (HS3.out _ _ _ (VT.out.at_.on HB3.out) (HL3.out.on HB3.out)).mono ?_; rintro e w43 ⟨rfl, hb⟩; have HB4 := Lib.hid (HB3.out.trans (hb.mono HB3.out.size)); clear hb) | (go_at_call 15; refine (HS2.out _ _ _ (VZ.out.at_.on HB2.out) (HL2.out.on HB2.out)).mono ?_; rintro e w42 ⟨rfl, hb⟩; have HB3 := Lib.hid (HB2.out.trans (hb.mono HB2.out.size)); clear hb) | (go_at_call 15; refine (HS1.out _ _ _ (VY.out.at_.on HB1.out) (HL1.out.on HB1.out)).mono ?_; rintro e w41 ⟨rfl, hb⟩; have HB2 := Lib.hid (HB1.out.trans (hb.mono HB1.out.size)); clear hb) | (go_at_call 15; refine (HS0.out _ _ _ (VX.out.at_.on HDr.out) (HL0.out.on HDr.out)).mono ?_; rintro e w40 ⟨rfl, hb⟩; have HB1 := Lib.hid (HDr.out.trans (hb.mono HDr.out.size)); clear hb))
        all_goals
          have B9 := Lib.hid (B.out.trans (HB4.out.mono B.out.size))
          clear HB1 HB2 HB3 HB4 HK HDr
          go_wp2
          go_ret
          exact ⟨rfl, B9.out⟩


set_option maxRecDepth 100000 in
theorem lifted (os : Os) (started : os.Started) (H : Type) (enc : TypeId × Value → H) :
    ReturnsInHanded {} Tryd.checked os 3 .any (fun w args => (Rows.safeSaysSpec.pre enc Tryd.prog Tryd.f3 Rows.safeSaysRow.domain false w args ∧ laidMetH Tryd.prog [("errors.errorType", Rows.laid_errors_errorType)] w) ∧ sizedMet enc Tryd.prog Tryd.f3 (OpenSpec.ofChange Rows.safeSaysSpec) false w args) (Rows.safeSaysSpec.post enc Tryd.prog Tryd.f3 false true false false) := by
  refine returnsInHanded_of_change_and (C := Tryd.checked) (X := fun w _ => laidMetH Tryd.prog [("errors.errorType", Rows.laid_errors_errorType)] w) (fun _ _ _ hh h => h.of_heap hh) own started (by kernel_rfl) Tryd.func3
    (ChangeSpec.witness_at (enc := enc) (C := Tryd.checked) (os := os) (X := fun w _ => laidMetH Tryd.prog [("errors.errorType", Rows.laid_errors_errorType)] w) false (laidWorld os) #[.agg #[.int .i64 0, .int .i64 0, .slice none 0 0, .slice none 0 0]] 8 rfl (by kernel_rfl) (by kernel_rfl) (by kernel_rfl) (by kernel_rfl) (by kernel_rfl) (laidWorld_met os _)) ?_
  intro W base args ds gs before hval0 hW hcnd hsz0 hL _
  have hval : ∀ (j : Nat) t v, Tryd.f3.params[j]? = some t → args[j]? = some v → Value.okWide Tryd.prog W .any base t v := hval0
  have hsz : (DataW.weightsEach Tryd.prog (Tryd.f3.params.toList ++ Rows.safeSaysSpec.plain.varTypes Tryd.prog) (ds ++ gs)).all (· ≤ reachBytes) = true := hsz0
  have hW' := hW
  obtain ⟨p, q, hA0, hV0, rfl, hfz, hnd⟩ := hW
  have hV : DataW.TrodVars enc Tryd.prog W (fun _ => true) [] gs q := hV0
  have hA : DataW.TrodAll enc Tryd.prog W 0 (fun _ => true) true Tryd.f3.params.toList args.toList ds p := hA0
  rw [Tryd.params3] at hA hval hsz
  obtain ⟨v0, vs0, d0, ds0, p0, q0, hargs, rfl, rfl, h0, rr0⟩ := trodAll_cons hA
  obtain ⟨rfl, rfl, rfl⟩ := trodAll_nil rr0
  obtain rfl : args = #[v0] := by cases args; simp_all
  obtain ⟨rfl, rfl⟩ := trodVars_none hV
  have k0 := h0
  have lt0 : ∀ x ∈ p0, x.block < W.heap.size := by obtain ⟨m, hm⟩ := k0; exact DataW.trod_lt m _ _ _ hm
  obtain ⟨D0, x0⟩ : ∃ d : Df.Aut, Df.DfaAt W W.heap.size v0 d := Df.dfa_open (hval 0 25 v0 rfl rfl) h0
  clear hA0 hval0
  refine (walk v0 D0 W x0 (handle_of_laid hL)).mono fun e W' ⟨he, bel⟩ => ?_
  subst he
  exact ⟨_, rfl, _, _, _, [], _, [], hW', trodAll_mk1 (shut_bool Tryd.underlying4 _), (trodAll_cons_mk (Below.trod laidOut (by kernel_rfl) (of_decide_eq_true (by kernel_rfl)) k0 bel lt0) trodAll_mk0), rfl, bel.frame _, fun h => by cases h⟩

theorem over : Rows.safeSaysRow.holds Tryd.pinned (OpenSpec.ofChange Rows.safeSaysSpec) :=
  OpenClaim.holds_of_wide 3 Tryd.f3 rfl rfl rfl rfl rfl rfl rfl ⟨rfl, rfl, rfl, rfl, rfl⟩ rfl rfl rfl rfl rfl (by kernel_rfl) Tryd.func3 (by kernel_rfl)
    (of_decide_eq_true (by kernel_rfl)) (by unfold Func.isWrapper; rw [if_neg (of_decide_eq_false (by kernel_rfl))]; exact ⟨rfl, rfl⟩)
    (fun os started H enc _ => lifted os started H enc)
theorem proved : Rows.SafeSaysCardSaid :=
  Claim7.holds_tied_plain_at .later [] [.handle] true (true, "981ca546801be8388c7bf9378d1b5059e79c51583c5f07ade6ebbebc5cd8e8da") true
    over (fun _ h => by cases h) (by kernel_rfl) (fun _ h => by cases h) safeSays_row_tie rfl ⟨rfl, rfl⟩ (by kernel_rfl) rfl
    (fun f fn hf hfn => by
      obtain rfl : f = 3 := Option.some.inj ((show Tryd.prog.funcNamed "stileward/stilewardlaw4.SafeSays" = some 3 by kernel_rfl).symm.trans hf) |>.symm
      obtain rfl : fn = Tryd.f3 := (Option.some.inj (Tryd.func3.symm.trans hfn)).symm
      exact ⟨by kernel_rfl, fun j t ht => by
        rw [Tryd.params3] at ht
        rcases j with _ | j
        · obtain rfl : 25 = t := by simpa using ht
          exact (show Tryd.prog.wantsStandIn 25 = false by kernel_rfl)
        · simp at ht⟩)
    (by kernel_rfl)
#print axioms proved
end Go.Proofs.YtciopfiddfmckaaDoor.safeSays
