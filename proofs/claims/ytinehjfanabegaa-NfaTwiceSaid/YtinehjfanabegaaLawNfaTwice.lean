/-
  The statement NfaTwiceSaid of this seat, proved: for every input the law returns true and its arguments read behind the call as before. Conditions: none but the row's own (each argument within the reach).
-/
import Derived.Test.YtinehjfanabegaaRows
import Derived.Test.YtinehjfanabegaaWords
import Derived.WalkKit
import Derived.ProofKit
import Derived.OpenShut
import Derived.ShutString
import Derived.ChangeOld
import Derived.Below
import Derived.SizedLaws
import Derived.Lib.Hide
import Derived.Test.YtinehjfanabegaaNfaV
import Derived.Test.YtinehjfanabegaaMinV
namespace Go.Proofs.Ytinehjfanabegaa.nfaTwice
open Go.ChangeShapes Go.WideShapes Go.ChangeAt Go.RowKit Go.IntWalk Go.Proofs.Ytinehjfanabegaa.Wd
open Go.ChangeMaps (open_string shut_string)
set_option linter.unusedVariables false

theorem own : ownKnob Try.prog.godebug = none := by kernel_rfl
theorem laidOut : laidOutB Try.prog = true := by kernel_rfl
open Go.Proofs.Ytinehjfanabegaa.Wo Go.Proofs.Ytinehjfanabegaa.Df Go.Proofs.Ytinehjfanabegaa.Rc Go.Proofs.Ytinehjfanabegaa.Sm Go.Proofs.Ytinehjfanabegaa.Mp
/-- What the helper gives: an automaton, and whether there is one. -/
def GivesB (f : Nat) (args : Array Value) (W : World) (ok : Bool) (r : Aut) : Prop :=
  Calls Try.prog f args W fun e w' => ∃ (L s : Int) (A : Option Addr) (n c : Nat) (F : Option Addr) (m k : Nat), e = .returned (.tuple #[.agg #[.int .i64 L, .int .i64 s, .slice A n c, .slice F m k], .bool ok]) ∧
    Hid (DfaAt w' w'.heap.size (.agg #[.int .i64 L, .int .i64 s, .slice A n c, .slice F m k]) r) ∧ Below W.heap.size W w'
/-- A new automaton, and an error. -/
def GivesO (f : Nat) (args : Array Value) (W : World) (E : Value) (d : Aut) : Prop :=
  Calls Try.prog f args W fun e w' => ∃ (L s : Int) (A : Option Addr) (n c : Nat) (F : Option Addr) (m k : Nat), e = .returned (.tuple #[.agg #[.int .i64 L, .int .i64 s, .slice A n c, .slice F m k], E]) ∧
    Hid (DfaOwn W w' (.agg #[.int .i64 L, .int .i64 s, .slice A n c, .slice F m k]) d) ∧ Below W.heap.size W w'
theorem nmake_own {W : World} {v : Value} {a : Nf.Nfa} (h : Nf.NfaAt W W.heap.size v a) {E : Value} {r : Aut} {k : Nat} (hr : Nf.makeOut a = (r, k)) (hE : errV k = E) : GivesO 38 #[v] W E r := by
  refine (Nf.make_any v a W h).mono fun e w' he => ?_
  obtain ⟨x, h1, ho⟩ := he.out
  rw [hr] at h1 ho
  obtain ⟨L, s, A, n, c, F, m, cf, rfl⟩ := ho.at_.form
  exact ⟨L, s, A, n, c, F, m, cf, by rw [h1, hE], ho, ho.below⟩
set_option maxRecDepth 100000 in
set_option maxHeartbeats 4000000 in
theorem mirrored_any (v : Value) (d : Aut) (w : World) (h : DfaAt w w.heap.size v d) (g : Df.Good d) (ok : Bool) (r : Aut) (k : Nat) (hr : Nf.makeOut (Nf.mir (Nf.ofA d)) = (r, k)) (hk : ok = decide (k = 0)) :
    GivesB 39 #[v] w ok r := by
  have go := Nf.of_good g
  have gm := Nf.mir_good go
  have HOf := Lib.hid (fun W v (h : DfaAt W W.heap.size v d) => Nf.nof_gives (E := .nilIface) h (Nf.ofOut_ok (dchk_iff.2 g)) rfl)
  have HMir := Lib.hid (fun W v (h : Nf.NfaAt W W.heap.size v (Nf.ofA d)) => Nf.nmir_gives (E := .nilIface) h (Nf.mirOut_ok (Nf.nchk_iff.2 go)) rfl)
  obtain ⟨L0, s0, A0, n0, c0, F0, m0, k0, rfl⟩ := h.form
  obtain ⟨u0, hu0, hb0, VA0⟩ := var_new w h
  have VA := Lib.hid VA0
  have B := Lib.hid hb0
  have W0 := Lib.hid hu0
  clear VA0 hb0 hu0 h
  have HB0 := B
  have R0 : Hid (Own u0 (u0.alloc (.cells #[.int .i64 0, .int .i64 0, .slice none 0 0, .slice none 0 0] 25)) [eDfa (w.heap.size + 1) zero4] []) := by
    have q := (own_start u0).dfa (.int .i64 0) (.int .i64 0) (.slice none 0 0) (.slice none 0 0)
    rw [show u0.heap.size = w.heap.size + 1 from by rw [W0.out]; simp] at q
    exact q
  obtain ⟨uz, huz⟩ : ∃ uz, uz = u0.alloc (.cells #[.int .i64 0, .int .i64 0, .slice none 0 0, .slice none 0 0] 25) := ⟨_, rfl⟩
  rw [← huz] at R0
  have hbz := R0.out.below
  have VA := Lib.hid (VA.out.on hbz)
  have B := Lib.hid (B.out.trans (hbz.mono B.out.size))
  rw [W0.out] at huz
  have W0 := Lib.hid huz
  have R := Lib.hid R0.out
  clear R0 hbz huz
  rcases k with _ | k
  · have hok : ok = true := hk
    subst hok
    have HMk := Lib.hid (fun W v (h : Nf.NfaAt W W.heap.size v (Nf.mir (Nf.ofA d))) => nmake_own (E := .nilIface) h hr rfl)
    clear hr hk g go gm
    generalize Nf.mir (Nf.ofA d) = M at *
    generalize Nf.ofA d = O at *
    unfold GivesB
    go_enter Try.func39, Try.ntmps39
    obtain ⟨p0, p1, p2, p3, p4⟩ := VA.out.box
    go_wp2_with fail
    rw [← W0.out]
    clear W0
    refine (HOf.out _ _ VA.out.at_).mono ?_
    rintro e u1 ⟨L11, s11, A11, n11, c11, M11, b11, d11, F11, m11, k11, rfl, hd, hb⟩
    have VA := Lib.hid (VA.out.on hb)
    have R := Lib.hid (R.out.on hb)
    have B := Lib.hid (B.out.trans (hb.mono B.out.size))
    clear hb p0 p1 p2 p3 p4 HOf
    obtain ⟨x1, hx1, hbn, Vn⟩ := Nf.varN_new u1 hd.out
    have HX := Lib.hid hx1
    have Vn := Lib.hid Vn
    have VA := Lib.hid (VA.out.on hbn)
    have R := Lib.hid (R.out.on hbn)
    have B := Lib.hid (B.out.trans (hbn.mono B.out.size))
    clear hbn hd hx1
    go_wp2_with fail
    rw [← HX.out]
    clear HX
    have VO := Vn
    clear Vn
    refine (HMir.out _ _ VO.out.at_).mono ?_
    rintro e u2 ⟨L12, s12, A12, n12, c12, M12, b12, d12, F12, m12, k12, rfl, hd, hb⟩
    clear VA
    have VO := Lib.hid (VO.out.on hb)
    have R := Lib.hid (R.out.on hb)
    have B := Lib.hid (B.out.trans (hb.mono B.out.size))
    clear hb  HMir
    obtain ⟨x2, hx2, hbn, Vn⟩ := Nf.varN_new u2 hd.out
    have HX := Lib.hid hx2
    have Vn := Lib.hid Vn
    have VO := Lib.hid (VO.out.on hbn)
    have R := Lib.hid (R.out.on hbn)
    have B := Lib.hid (B.out.trans (hbn.mono B.out.size))
    clear hbn hd hx2
    go_wp2_with fail
    rw [← HX.out]
    clear HX
    have VM := Vn
    clear Vn
    refine (HMk.out _ _ VM.out.at_).mono ?_
    rintro e u3 ⟨L13, s13, A13, n13, c13, F13, m13, k13, rfl, hd, hb⟩
    have RW := R
    clear VO
    have VM := Lib.hid (VM.out.on hb)
    have R := Lib.hid (R.out.on hb)
    have B := Lib.hid (B.out.trans (hb.mono B.out.size))
    clear hb  HMk
    obtain ⟨x9, hx9, hbn, Vn⟩ := var_new u3 hd.out.at_
    have HX := Lib.hid hx9
    have HRO := Lib.hid (res_own RW.out (hd.out.on (hbn.drew)) rfl)
    have R := Lib.hid (R.out.on hbn)
    obtain ⟨hr0, hf0⟩ := R.out.dcell (g := w.heap.size + 1) (l := zero4) (j := 0) (by simp) rfl
    obtain ⟨hr1, hf1⟩ := R.out.dcell (g := w.heap.size + 1) (l := zero4) (j := 1) (by simp) rfl
    obtain ⟨hr2, hf2⟩ := R.out.dcell (g := w.heap.size + 1) (l := zero4) (j := 2) (by simp) rfl
    obtain ⟨hr3, hf3⟩ := R.out.dcell (g := w.heap.size + 1) (l := zero4) (j := 3) (by simp) rfl
    obtain ⟨p0, p1, p2, p3, p4⟩ := Vn.box
    clear Vn hbn R RW hd B VM hx9
    go_wp2
    rw [← HX.out]
    go_region
    go_wp2
    obtain ⟨k1, k3, k4, k5, k6⟩ := HRO.out
    exact bodyPost_ret (results_dfa rfl _ rfl k3 k4 k5 k6) rfl ⟨_, _, _, _, _, _, _, _, rfl, Lib.hid k1.at_, HB0.out.trans (k1.below.mono HB0.out.size)⟩
  · have hok : ok = false := hk
    subst hok
    have HMk := Lib.hid (fun W v (h : Nf.NfaAt W W.heap.size v (Nf.mir (Nf.ofA d))) => nmake_own (E := errV (k + 1)) h hr rfl)
    have hnil : errV (k + 1) = .iface 67 (.int .i64 ((k + 1 : Nat) : Int)) := rfl
    rw [hnil] at HMk
    clear hnil
    generalize ((k + 1 : Nat) : Int) = kk at *
    clear hr hk g go gm
    generalize Nf.mir (Nf.ofA d) = M at *
    generalize Nf.ofA d = O at *
    unfold GivesB
    go_enter Try.func39, Try.ntmps39
    obtain ⟨p0, p1, p2, p3, p4⟩ := VA.out.box
    go_wp2_with fail
    rw [← W0.out]
    clear W0
    refine (HOf.out _ _ VA.out.at_).mono ?_
    rintro e u1 ⟨L11, s11, A11, n11, c11, M11, b11, d11, F11, m11, k11, rfl, hd, hb⟩
    have VA := Lib.hid (VA.out.on hb)
    have R := Lib.hid (R.out.on hb)
    have B := Lib.hid (B.out.trans (hb.mono B.out.size))
    clear hb p0 p1 p2 p3 p4 HOf
    obtain ⟨x1, hx1, hbn, Vn⟩ := Nf.varN_new u1 hd.out
    have HX := Lib.hid hx1
    have Vn := Lib.hid Vn
    have VA := Lib.hid (VA.out.on hbn)
    have R := Lib.hid (R.out.on hbn)
    have B := Lib.hid (B.out.trans (hbn.mono B.out.size))
    clear hbn hd hx1
    go_wp2_with fail
    rw [← HX.out]
    clear HX
    have VO := Vn
    clear Vn
    refine (HMir.out _ _ VO.out.at_).mono ?_
    rintro e u2 ⟨L12, s12, A12, n12, c12, M12, b12, d12, F12, m12, k12, rfl, hd, hb⟩
    clear VA
    have VO := Lib.hid (VO.out.on hb)
    have R := Lib.hid (R.out.on hb)
    have B := Lib.hid (B.out.trans (hb.mono B.out.size))
    clear hb  HMir
    obtain ⟨x2, hx2, hbn, Vn⟩ := Nf.varN_new u2 hd.out
    have HX := Lib.hid hx2
    have Vn := Lib.hid Vn
    have VO := Lib.hid (VO.out.on hbn)
    have R := Lib.hid (R.out.on hbn)
    have B := Lib.hid (B.out.trans (hbn.mono B.out.size))
    clear hbn hd hx2
    go_wp2_with fail
    rw [← HX.out]
    clear HX
    have VM := Vn
    clear Vn
    refine (HMk.out _ _ VM.out.at_).mono ?_
    rintro e u3 ⟨L13, s13, A13, n13, c13, F13, m13, k13, rfl, hd, hb⟩
    have RW := R
    clear VO
    have VM := Lib.hid (VM.out.on hb)
    have R := Lib.hid (R.out.on hb)
    have B := Lib.hid (B.out.trans (hb.mono B.out.size))
    clear hb  HMk
    obtain ⟨x9, hx9, hbn, Vn⟩ := var_new u3 hd.out.at_
    have HX := Lib.hid hx9
    have HRO := Lib.hid (res_own RW.out (hd.out.on (hbn.drew)) rfl)
    have R := Lib.hid (R.out.on hbn)
    obtain ⟨hr0, hf0⟩ := R.out.dcell (g := w.heap.size + 1) (l := zero4) (j := 0) (by simp) rfl
    obtain ⟨hr1, hf1⟩ := R.out.dcell (g := w.heap.size + 1) (l := zero4) (j := 1) (by simp) rfl
    obtain ⟨hr2, hf2⟩ := R.out.dcell (g := w.heap.size + 1) (l := zero4) (j := 2) (by simp) rfl
    obtain ⟨hr3, hf3⟩ := R.out.dcell (g := w.heap.size + 1) (l := zero4) (j := 3) (by simp) rfl
    obtain ⟨p0, p1, p2, p3, p4⟩ := Vn.box
    clear Vn hbn R RW hd B VM hx9
    go_wp2
    rw [← HX.out]
    go_region
    go_wp2
    obtain ⟨k1, k3, k4, k5, k6⟩ := HRO.out
    exact bodyPost_ret (results_dfa rfl _ rfl k3 k4 k5 k6) rfl ⟨_, _, _, _, _, _, _, _, rfl, Lib.hid k1.at_, HB0.out.trans (k1.below.mono HB0.out.size)⟩

set_option maxRecDepth 100000 in
set_option maxHeartbeats 4000000 in
theorem walk (v0 : Value) (d0 : Df.Aut) (w : World) (h0 : Df.DfaAt w w.heap.size v0 d0) :
    Calls Try.prog 14 #[v0] w fun e w' => e = .returned (.bool true) ∧ Below w.heap.size w w' := by
  obtain ⟨L0, s0, A0, n0, c0, F0, m0, k0, rfl⟩ := h0.form
  obtain ⟨u0, hu0, hb0, VA0⟩ := var_new w h0
  have VA := Lib.hid VA0
  have B := Lib.hid hb0
  have W0 := Lib.hid hu0
  clear VA0 hb0 hu0 h0
  by_cases ga : dchk d0 = 0
  · have Ga := dchk_iff.1 ga
    have go := Nf.of_good Ga
    have gm := Nf.mir_good go
    have gt := min_good Ga
    have HC := Lib.hid (fun W v (h : DfaAt W W.heap.size v d0) => dcheck_ok h ga)
    have HM := Lib.hid (fun W v (h : DfaAt W W.heap.size v d0) => min_gives (E := .nilIface) h (minOut_ok ga) rfl)
    have HSm := Lib.hid (fun W v z (h : DfaAt W W.heap.size v (minA d0)) (h2 : DfaAt W W.heap.size z (minA d0)) => same_gives h h2 gt.lite rfl)
    have HN1 : Hid (1 ≤ (minA d0).next.length) := gt.n1
    have HN40 : Hid ((minA d0).next.length ≤ 40) := gt.n40
    rcases hf : found (Nf.T (Nf.mir (Nf.ofA d0))) (Nf.beg (Nf.mir (Nf.ofA d0))) with _ | l
    · have HMr := Lib.hid (fun W v (h : DfaAt W W.heap.size v d0) => mirrored_any v d0 W h Ga false zeroA 4 ((Nf.makeOut_ok (Nf.nchk_iff.2 gm)).trans (explOut_none hf)) rfl)
      clear ga Ga go gm gt hf
      generalize minA d0 = T at *
      go_enter Try.func14, Try.ntmps14
      obtain ⟨p0, p1, p2, p3, p4⟩ := VA.out.box
      go_wp2_with fail
      rw [← W0.out]
      clear W0
      refine (HC.out _ _ VA.out.at_).mono ?_
      rintro e u1 ⟨rfl, hb⟩
      have VA := Lib.hid (VA.out.on hb)
      have B := Lib.hid (B.out.trans (hb.mono B.out.size))
      clear hb p0 p1 p2 p3 p4 HC
      obtain ⟨p0, p1, p2, p3, p4⟩ := VA.out.box
      go_wp2_with fail
      refine (HM.out _ _ VA.out.at_).mono ?_
      rintro e u2 ⟨L12, s12, A12, n12, c12, F12, m12, k12, rfl, hd, hb⟩
      have VA := Lib.hid (VA.out.on hb)
      have B := Lib.hid (B.out.trans (hb.mono B.out.size))
      clear hb p0 p1 p2 p3 p4 HM
      obtain ⟨hN, hN2⟩ : 1 ≤ n12 ∧ (n12 : Int) ≤ 40 := by have q := hd.out.eqs; have q1 := HN1.out; have q2 := HN40.out; have q3 := q.2.2.1; omega
      clear HN1 HN40
      obtain ⟨p0, p1, p2, p3, p4⟩ := VA.out.box
      obtain ⟨x2, hx2, hbn, Vn⟩ := var_new u2 hd.out
      have HX := Lib.hid hx2
      have Vn := Lib.hid Vn
      have VA := Lib.hid (VA.out.on hbn)
      have B := Lib.hid (B.out.trans (hbn.mono B.out.size))
      clear hbn hd hx2
      go_wp2_with fail
      rw [← HX.out]
      clear HX
      have VT := Vn
      clear Vn
      refine (HMr.out _ _ VA.out.at_).mono ?_
      rintro e u3 ⟨L13, s13, A13, n13, c13, F13, m13, k13, rfl, hd, hb⟩
      have VA := Lib.hid (VA.out.on hb)
      have VT := Lib.hid (VT.out.on hb)
      have B := Lib.hid (B.out.trans (hb.mono B.out.size))
      clear hb p0 p1 p2 p3 p4 HMr
      have HY := Lib.hid (B.out.trans ((below_alloc _ (.cells #[.int .i64 L13, .int .i64 s13, .slice A13 n13 c13, .slice F13 m13 k13] 25)).mono B.out.size))
      clear hd B
      go_wp2
      go_ret
      exact ⟨rfl, HY.out⟩
    · have gx := Nf.make_good gm hf
      obtain ⟨l2, hl2, ht⟩ := Nf.twice Ga hf (x := Nf.makeA (Nf.mir (Nf.ofA d0)) l) rfl
      have HMr := Lib.hid (fun W v (h : DfaAt W W.heap.size v d0) => mirrored_any v d0 W h Ga true (Nf.makeA (Nf.mir (Nf.ofA d0)) l) 0 ((Nf.makeOut_ok (Nf.nchk_iff.2 gm)).trans (explOut_some hf)) rfl)
      have HMx := Lib.hid (fun W v (h : DfaAt W W.heap.size v (Nf.makeA (Nf.mir (Nf.ofA d0)) l)) => mirrored_any v _ W h gx true (minA d0) 0 ((Nf.makeOut_ok (Nf.nchk_iff.2 (Nf.mir_good (Nf.of_good gx)))).trans ((explOut_some hl2).trans (by rw [← ht]; rfl))) rfl)
      clear ga Ga go gm gt hf gx hl2 ht
      clear l2
      generalize minA d0 = T at *
      generalize Nf.makeA (Nf.mir (Nf.ofA d0)) l = X at *
      go_enter Try.func14, Try.ntmps14
      obtain ⟨p0, p1, p2, p3, p4⟩ := VA.out.box
      go_wp2_with fail
      rw [← W0.out]
      clear W0
      refine (HC.out _ _ VA.out.at_).mono ?_
      rintro e u1 ⟨rfl, hb⟩
      have VA := Lib.hid (VA.out.on hb)
      have B := Lib.hid (B.out.trans (hb.mono B.out.size))
      clear hb p0 p1 p2 p3 p4 HC
      obtain ⟨p0, p1, p2, p3, p4⟩ := VA.out.box
      go_wp2_with fail
      refine (HM.out _ _ VA.out.at_).mono ?_
      rintro e u2 ⟨L12, s12, A12, n12, c12, F12, m12, k12, rfl, hd, hb⟩
      have VA := Lib.hid (VA.out.on hb)
      have B := Lib.hid (B.out.trans (hb.mono B.out.size))
      clear hb p0 p1 p2 p3 p4 HM
      obtain ⟨hN, hN2⟩ : 1 ≤ n12 ∧ (n12 : Int) ≤ 40 := by have q := hd.out.eqs; have q1 := HN1.out; have q2 := HN40.out; have q3 := q.2.2.1; omega
      clear HN1 HN40
      obtain ⟨p0, p1, p2, p3, p4⟩ := VA.out.box
      obtain ⟨x2, hx2, hbn, Vn⟩ := var_new u2 hd.out
      have HX := Lib.hid hx2
      have Vn := Lib.hid Vn
      have VA := Lib.hid (VA.out.on hbn)
      have B := Lib.hid (B.out.trans (hbn.mono B.out.size))
      clear hbn hd hx2
      go_wp2_with fail
      rw [← HX.out]
      clear HX
      have VT := Vn
      clear Vn
      refine (HMr.out _ _ VA.out.at_).mono ?_
      rintro e u3 ⟨L13, s13, A13, n13, c13, F13, m13, k13, rfl, hd, hb⟩
      have VA := Lib.hid (VA.out.on hb)
      have VT := Lib.hid (VT.out.on hb)
      have B := Lib.hid (B.out.trans (hb.mono B.out.size))
      clear hb p0 p1 p2 p3 p4 HMr
      obtain ⟨x3, hx3, hbn, Vn⟩ := var_new u3 hd.out
      have HX := Lib.hid hx3
      have Vn := Lib.hid Vn
      have VA := Lib.hid (VA.out.on hbn)
      have VT := Lib.hid (VT.out.on hbn)
      have B := Lib.hid (B.out.trans (hbn.mono B.out.size))
      clear hbn hd hx3
      go_wp2_with fail
      rw [← HX.out]
      clear HX
      have VX := Vn
      clear Vn
      refine (HMx.out _ _ VX.out.at_).mono ?_
      rintro e u4 ⟨L14, s14, A14, n14, c14, F14, m14, k14, rfl, hd, hb⟩
      clear VA
      have VT := Lib.hid (VT.out.on hb)
      have VX := Lib.hid (VX.out.on hb)
      have B := Lib.hid (B.out.trans (hb.mono B.out.size))
      clear hb  HMx
      obtain ⟨p0, p1, p2, p3, p4⟩ := VT.out.box
      obtain ⟨x4, hx4, hbn, Vn⟩ := var_new u4 hd.out
      have HX := Lib.hid hx4
      have Vn := Lib.hid Vn
      have VT := Lib.hid (VT.out.on hbn)
      have VX := Lib.hid (VX.out.on hbn)
      have B := Lib.hid (B.out.trans (hbn.mono B.out.size))
      clear hbn hd hx4
      go_wp2_with fail
      rw [← HX.out]
      clear HX
      have VY := Vn
      clear Vn
      refine (HSm.out _ _ _ VY.out.at_ VT.out.at_).mono ?_
      rintro e u5 ⟨rfl, hb⟩
      clear VX
      have VT := Lib.hid (VT.out.on hb)
      have VY := Lib.hid (VY.out.on hb)
      have B := Lib.hid (B.out.trans (hb.mono B.out.size))
      clear hb p0 p1 p2 p3 p4 HSm
      go_wp2
      go_ret
      exact ⟨rfl, B.out⟩
  · obtain ⟨e0, he0⟩ : ∃ k, dchk d0 = k + 1 := ⟨dchk d0 - 1, by omega⟩
    obtain ⟨E, hE⟩ := errV_bad ga
    have HC := Lib.hid (fun W v (h : DfaAt W W.heap.size v d0) => dcheck_bad h he0 rfl)
    have HM := Lib.hid (fun W v (h : DfaAt W W.heap.size v d0) => min_gives h (minOut_bad ga) hE)
    generalize ((e0 + 1 : Nat) : Int) = E2 at *
    clear ga he0 hE
    go_enter Try.func14, Try.ntmps14
    obtain ⟨p0, p1, p2, p3, p4⟩ := VA.out.box
    go_wp2_with fail
    rw [← W0.out]
    clear W0
    refine (HC.out _ _ VA.out.at_).mono ?_
    rintro e u1 ⟨rfl, hb⟩
    have VA := Lib.hid (VA.out.on hb)
    have B := Lib.hid (B.out.trans (hb.mono B.out.size))
    clear hb p0 p1 p2 p3 p4 HC
    obtain ⟨p0, p1, p2, p3, p4⟩ := VA.out.box
    go_wp2_with fail
    refine (HM.out _ _ VA.out.at_).mono ?_
    rintro e u2 ⟨L12, s12, A12, n12, c12, F12, m12, k12, rfl, hd, hb⟩
    have VA := Lib.hid (VA.out.on hb)
    have B := Lib.hid (B.out.trans (hb.mono B.out.size))
    clear hb p0 p1 p2 p3 p4 HM
    have HY := Lib.hid (B.out.trans ((below_alloc _ (.cells #[.int .i64 L12, .int .i64 s12, .slice A12 n12 c12, .slice F12 m12 k12] 25)).mono B.out.size))
    clear hd B
    go_wp2
    go_ret
    exact ⟨rfl, HY.out⟩


set_option maxRecDepth 100000 in
theorem lifted (os : Os) (started : os.Started) (H : Type) (enc : TypeId × Value → H) :
    ReturnsInHanded {} Try.checked os 14 .any (Rows.nfaTwiceSpec.pre6 enc Try.prog Try.f14 Rows.nfaTwiceRow.domain false) (Rows.nfaTwiceSpec.post enc Try.prog Try.f14 false true false false) := by
  refine returnsInHanded_of_change_sized (C := Try.checked) own started (by kernel_rfl) Try.func14
    (ChangeSpec.witness6 (enc := enc) (C := Try.checked) false ⟨#[], #[.agg #[.int .i64 0, .int .i64 0, .slice none 0 0, .slice none 0 0]], []⟩ 8 (by kernel_rfl) (by kernel_rfl) (by kernel_rfl) (by kernel_rfl)) ?_
  intro W base args ds gs before hval0 hW hcnd hsz0 _
  have hval : ∀ (j : Nat) t v, Try.f14.params[j]? = some t → args[j]? = some v → Value.okWide Try.prog W .any base t v := hval0
  have hsz : (DataW.weightsEach Try.prog (Try.f14.params.toList ++ Rows.nfaTwiceSpec.plain.varTypes Try.prog) (ds ++ gs)).all (· ≤ reachBytes) = true := hsz0
  have hW' := hW
  obtain ⟨p, q, hA0, hV0, rfl, hfz, hnd⟩ := hW
  have hV : DataW.TrodVars enc Try.prog W (fun _ => true) [] gs q := hV0
  have hA : DataW.TrodAll enc Try.prog W 0 (fun _ => true) true Try.f14.params.toList args.toList ds p := hA0
  rw [Try.params14] at hA hval hsz
  obtain ⟨v0, vs0, d0, ds0, p0, q0, hargs, rfl, rfl, h0, rr0⟩ := trodAll_cons hA
  obtain ⟨rfl, rfl, rfl⟩ := trodAll_nil rr0
  obtain rfl : args = #[v0] := by cases args; simp_all
  obtain ⟨rfl, rfl⟩ := trodVars_none hV
  have k0 := h0
  have lt0 : ∀ x ∈ p0, x.block < W.heap.size := by obtain ⟨m, hm⟩ := k0; exact DataW.trod_lt m _ _ _ hm
  obtain ⟨D0, x0⟩ : ∃ d : Df.Aut, Df.DfaAt W W.heap.size v0 d := Df.dfa_open (hval 0 25 v0 rfl rfl) h0
  clear hA0 hval0
  refine (walk v0 D0 W x0).mono fun e W' ⟨he, bel⟩ => ?_
  subst he
  exact ⟨_, rfl, _, _, _, [], _, [], hW', trodAll_mk1 (shut_bool Try.underlying4 _), (trodAll_cons_mk (Below.trod laidOut (by kernel_rfl) (of_decide_eq_true (by kernel_rfl)) k0 bel lt0) trodAll_mk0), rfl, bel.frame _, fun h => by cases h⟩

theorem over : Rows.nfaTwiceRow.holds Try.pinned (OpenSpec.ofChange Rows.nfaTwiceSpec) :=
  OpenClaim.holds_of_wide 14 Try.f14 rfl rfl rfl rfl rfl rfl rfl ⟨rfl, rfl, rfl, rfl, rfl⟩ rfl rfl rfl rfl rfl (by kernel_rfl) Try.func14 (by kernel_rfl)
    (of_decide_eq_true (by kernel_rfl)) (by unfold Func.isWrapper; rw [if_neg (of_decide_eq_false (by kernel_rfl))]; exact ⟨rfl, rfl⟩)
    (fun os started H enc _ => lifted os started H enc)
theorem proved : Rows.NfaTwiceSaid := over
#print axioms proved
end Go.Proofs.Ytinehjfanabegaa.nfaTwice
