/- The walk of package back's Make; its contracts as the laws take them. -/
import Derived.Test.YtnlkkfcjonchgaaDoorBackP
import Derived.Test.YtnlkkfcjonchgaaDoorNfaV

namespace Go.Proofs.YtnlkkfcjonchgaaDoor.Fm
open Go.RowKit Go.IntWalk Go.Proofs.YtnlkkfcjonchgaaDoor.Wd Go.Proofs.YtnlkkfcjonchgaaDoor.Wo Go.Proofs.YtnlkkfcjonchgaaDoor.Mp Go.Proofs.YtnlkkfcjonchgaaDoor.Df

/-- What Make gives. -/
def mkOut (L : Int) (f : List Nd) : Aut × Nat := if (bkOut L f).2 = 0 then Nf.makeOut (Nf.mir (Nf.ofA (bkOut L f).1)) else (zeroA, (bkOut L f).2)
theorem bkOut_good {L : Int} {f : List Nd} (h : (bkOut L f).2 = 0) : FGood L f ∧ ∃ l, found (backS L f) (vec f []) = some l ∧ (bkOut L f).1 = backA L f l ∧ Df.Good (bkOut L f).1 := by
  by_cases g1 : fchk L f = 0
  · have hg := fchk_iff.1 g1
    rw [bkOut_ok g1] at h ⊢
    unfold backOut at h ⊢
    rcases hl : found (backS L f) (vec f []) with _ | l
    · rw [explOut_none hl] at h; cases h
    · rw [explOut_some hl]
      exact ⟨hg, l, rfl, rfl, back_good hg hl⟩
  · rw [bkOut_bad g1] at h
    exact absurd h g1
/-- A new automaton, and an error. -/
def GivesO (f : Nat) (args : Array Value) (W : World) (E : Value) (d : Aut) : Prop :=
  Calls Tryd.prog f args W fun e w' => ∃ (L s : Int) (A : Option Addr) (n c : Nat) (F : Option Addr) (m k : Nat), e = .returned (.tuple #[.agg #[.int .i64 L, .int .i64 s, .slice A n c, .slice F m k], E]) ∧
    Hid (DfaOwn W w' (.agg #[.int .i64 L, .int .i64 s, .slice A n c, .slice F m k]) d) ∧ Below W.heap.size W w'
theorem givesO_of {fn : Nat} {args : Array Value} {W : World} {p : Aut × Nat} (h : Calls Tryd.prog fn args W fun e w' => Hid (∃ x, e = .returned (.tuple #[x, errV p.2]) ∧ DfaOwn W w' x p.1)) {E : Value} {r : Aut} {k : Nat} (hr : p = (r, k)) (hE : errV k = E) : GivesO fn args W E r := by
  refine h.mono fun e w' he => ?_
  obtain ⟨x, h1, ho⟩ := he.out
  rw [hr] at h1 ho
  obtain ⟨L, s, A, n, c, F, m, cf, rfl⟩ := ho.at_.form
  exact ⟨L, s, A, n, c, F, m, cf, by rw [h1, hE], ho, ho.below⟩
set_option maxRecDepth 100000 in
set_option maxHeartbeats 4000000 in
theorem bmake_any (L : Int) (A : Option Addr) (c : Nat) (f : List Nd) (w : World) (hL : Small L) (hA : NodesAt w w.heap.size A f) (hlen : f.length ≤ 9223372036854775807) :
    Calls Tryd.prog 12 #[.int .i64 L, .slice A f.length c] w fun e w' => Hid (∃ x, e = .returned (.tuple #[x, errV (mkOut L f).2]) ∧ DfaOwn w w' x (mkOut L f).1) := by
  obtain ⟨w1, hw1⟩ : ∃ w1, w1 = w.alloc (.cells #[.int .i64 0, .int .i64 0, .slice none 0 0, .slice none 0 0] 27) := ⟨_, rfl⟩
  have hO : Own w w1 [eDfa w.heap.size zero4] [] := by rw [hw1]; exact (own_start w).dfa (.int .i64 0) (.int .i64 0) (.slice none 0 0) (.slice none 0 0)
  have HBk := Lib.hid (back_any L A c f w1 hL (hA.on hO.below) hlen)
  have W0 := Lib.hid hw1
  have R := Lib.hid hO
  have B := Lib.hid hO.below
  clear hw1 hO hA hlen
  by_cases h0 : (bkOut L f).2 = 0
  · obtain ⟨_, _, _, _, gd⟩ := bkOut_good h0
    have HM : Hid (mkOut L f = Nf.makeOut (Nf.mir (Nf.ofA (bkOut L f).1))) := by unfold Hid mkOut; rw [if_pos h0]
    rw [h0] at HBk
    generalize (bkOut L f).1 = d at *
    have go := Nf.of_good gd
    have HOf := Lib.hid (fun W v (h : DfaAt W W.heap.size v d) => Nf.nof_gives (E := .nilIface) h (Nf.ofOut_ok (dchk_iff.2 gd)) rfl)
    have HMir := Lib.hid (fun W v (h : Nf.NfaAt W W.heap.size v (Nf.ofA d)) => Nf.nmir_gives (E := .nilIface) h (Nf.mirOut_ok (Nf.nchk_iff.2 go)) rfl)
    rw [HM.out]
    generalize hPO : Nf.makeOut (Nf.mir (Nf.ofA d)) = PO
    obtain ⟨po, en⟩ := PO
    have HMk := Lib.hid (fun W v (h : Nf.NfaAt W W.heap.size v (Nf.mir (Nf.ofA d))) => givesO_of (Nf.make_any v _ W h) hPO rfl)
    simp only
    clear h0 HM gd go hPO
    generalize Nf.mir (Nf.ofA d) = M at *
    generalize Nf.ofA d = O at *
    generalize errV en = E at *
    generalize f.length = n at *
    go_enter Tryd.func12, Tryd.ntmps12
    go_wp2_with fail
    rw [← W0.out]
    clear W0
    refine HBk.out.mono ?_
    rintro e u0 he
    obtain ⟨x, h6, ho⟩ := he.out
    subst h6
    have hd := Lib.hid ho.at_
    have hb := ho.below
    have R := Lib.hid (R.out.on hb)
    have B := Lib.hid (B.out.trans (hb.mono B.out.size))
    obtain ⟨L5, s5, A5, n5, c5, F5, m5, k5, rfl⟩ := hd.out.form
    obtain ⟨x1, hx1, hbn, Vn⟩ := var_new u0 hd.out
    have HX := Lib.hid hx1
    have VA := Lib.hid Vn
    have R := Lib.hid (R.out.on hbn)
    have B := Lib.hid (B.out.trans (hbn.mono B.out.size))
    clear hbn hd hx1 hb ho he HBk Vn
    obtain ⟨p0, p1, p2, p3, p4⟩ := VA.out.box
    simp only [errV]
    go_wp2_with fail
    rw [← HX.out]
    clear HX
    refine (HOf.out _ _ VA.out.at_).mono ?_
    rintro e u1 ⟨L11, s11, A11, n11, c11, M11, b11, d11, F11, m11, k11, rfl, hd, hb⟩
    have R := Lib.hid (R.out.on hb)
    have B := Lib.hid (B.out.trans (hb.mono B.out.size))
    clear hb p0 p1 p2 p3 p4 HOf VA
    obtain ⟨x1, hx1, hbn, Vn⟩ := Nf.varN_new u1 hd.out
    have HX := Lib.hid hx1
    have VO := Lib.hid Vn
    have R := Lib.hid (R.out.on hbn)
    have B := Lib.hid (B.out.trans (hbn.mono B.out.size))
    clear hbn hd hx1 Vn
    obtain ⟨p0, p1, p2, p3, p4, p5⟩ := VO.out.box
    go_wp2_with fail
    rw [← HX.out]
    clear HX
    refine (HMir.out _ _ VO.out.at_).mono ?_
    rintro e u2 ⟨L12, s12, A12, n12, c12, M12, b12, d12, F12, m12, k12, rfl, hd, hb⟩
    have R := Lib.hid (R.out.on hb)
    have B := Lib.hid (B.out.trans (hb.mono B.out.size))
    clear hb p0 p1 p2 p3 p4 p5 HMir VO
    obtain ⟨x2, hx2, hbn, Vn⟩ := Nf.varN_new u2 hd.out
    have HX := Lib.hid hx2
    have VM := Lib.hid Vn
    have R := Lib.hid (R.out.on hbn)
    have B := Lib.hid (B.out.trans (hbn.mono B.out.size))
    clear hbn hd hx2 Vn
    obtain ⟨p0, p1, p2, p3, p4, p5⟩ := VM.out.box
    go_wp2_with fail
    rw [← HX.out]
    clear HX
    refine (HMk.out _ _ VM.out.at_).mono ?_
    rintro e u3 ⟨L13, s13, A13, n13, c13, F13, m13, k13, rfl, hd, hb⟩
    have HRO := Lib.hid (res_own R.out hd.out rfl)
    have R := Lib.hid (R.out.on hb)
    obtain ⟨hr0, hf0⟩ := R.out.dcell (g := w.heap.size) (l := zero4) (j := 0) (by simp) rfl
    obtain ⟨hr1, hf1⟩ := R.out.dcell (g := w.heap.size) (l := zero4) (j := 1) (by simp) rfl
    obtain ⟨hr2, hf2⟩ := R.out.dcell (g := w.heap.size) (l := zero4) (j := 2) (by simp) rfl
    obtain ⟨hr3, hf3⟩ := R.out.dcell (g := w.heap.size) (l := zero4) (j := 3) (by simp) rfl
    clear hb p0 p1 p2 p3 p4 p5 HMk VM hd R B
    go_wp2
    obtain ⟨k1, k3, k4, k5, k6⟩ := HRO.out
    exact bodyPost_ret (results_dfa rfl _ rfl k3 k4 k5 k6) rfl ⟨_, rfl, k1⟩
  · have HNo : Hid (mkOut L f = (zeroA, (bkOut L f).2)) := by unfold Hid mkOut; rw [if_neg h0]
    obtain ⟨e0, he0⟩ : ∃ e0, (bkOut L f).2 = e0 + 1 := ⟨(bkOut L f).2 - 1, by omega⟩
    rw [he0] at HBk HNo
    rw [show errV (e0 + 1) = errI ((e0 + 1 : Nat) : Int) from rfl] at HBk
    generalize hE : ((e0 + 1 : Nat) : Int) = E at *
    have HE := Lib.hid hE
    clear hE he0 h0
    generalize (bkOut L f).1 = d at *
    generalize f.length = n at *
    go_enter Tryd.func12, Tryd.ntmps12
    go_wp2_with fail
    rw [← W0.out]
    clear W0
    refine HBk.out.mono ?_
    rintro e u0 he
    obtain ⟨x, h6, ho⟩ := he.out
    subst h6
    have hd := Lib.hid ho.at_
    have hb := ho.below
    have R := Lib.hid (R.out.on hb)
    obtain ⟨L5, s5, A5, n5, c5, F5, m5, k5, rfl⟩ := hd.out.form
    obtain ⟨x1, hx1, hbn, Vn⟩ := var_new u0 hd.out
    have HX := Lib.hid hx1
    have R := Lib.hid (R.out.on hbn)
    clear hbn hd hb ho he HBk Vn B
    rw [hx1] at R
    clear hx1 HX
    obtain ⟨hr0, hf0⟩ := R.out.dcell (g := w.heap.size) (l := zero4) (j := 0) (by simp) rfl
    obtain ⟨hr1, hf1⟩ := R.out.dcell (g := w.heap.size) (l := zero4) (j := 1) (by simp) rfl
    obtain ⟨hr2, hf2⟩ := R.out.dcell (g := w.heap.size) (l := zero4) (j := 2) (by simp) rfl
    obtain ⟨hr3, hf3⟩ := R.out.dcell (g := w.heap.size) (l := zero4) (j := 3) (by simp) rfl
    have HEnd := Lib.hid (res_bad R.out rfl)
    clear R
    go_wp2
    obtain ⟨k2, k3, k4, k5, k6⟩ := HEnd.out
    refine bodyPost_ret (results_dfa rfl _ rfl k3 k4 k5 k6) rfl ⟨_, by rw [HNo.out, errV_succ, HE.out]; rfl, by rw [HNo.out]; exact dfaOwn_zero k2⟩
theorem back_gives {W : World} {L : Int} {A : Option Addr} {c : Nat} {f : List Nd} (hL : Small L) (hA : NodesAt W W.heap.size A f) (hlen : f.length ≤ 9223372036854775807) {E : Value} {r : Aut} {k : Nat} (hr : bkOut L f = (r, k)) (hE : errV k = E) : Gives 9 #[.int .i64 L, .slice A f.length c] W E r :=
  gives_of (back_any L A c f W hL hA hlen) (by rw [hr]; exact hE) (by rw [hr])
theorem bmake_gives {W : World} {L : Int} {A : Option Addr} {c : Nat} {f : List Nd} (hL : Small L) (hA : NodesAt W W.heap.size A f) (hlen : f.length ≤ 9223372036854775807) {E : Value} {r : Aut} {k : Nat} (hr : mkOut L f = (r, k)) (hE : errV k = E) : Gives 12 #[.int .i64 L, .slice A f.length c] W E r :=
  gives_of (bmake_any L A c f W hL hA hlen) (by rw [hr]; exact hE) (by rw [hr])
theorem bk_cases (L : Int) (f : List Nd) : (∃ l, FGood L f ∧ found (backS L f) (vec f []) = some l ∧ bkOut L f = (backA L f l, 0)) ∨ ∃ k, bkOut L f = (zeroA, k + 1) ∧ (FGood L f → k = 3) := by
  by_cases g1 : fchk L f = 0
  · have hg := fchk_iff.1 g1
    rw [bkOut_ok g1]
    unfold backOut
    rcases hl : found (backS L f) (vec f []) with _ | l
    · exact .inr ⟨3, by rw [explOut_none hl], fun _ => rfl⟩
    · exact .inl ⟨l, hg, rfl, by rw [explOut_some hl]; rfl⟩
  · rw [bkOut_bad g1]
    exact .inr ⟨fchk L f - 1, by rw [show fchk L f - 1 + 1 = fchk L f by omega], fun g => absurd (fchk_iff.2 g) g1⟩
theorem mk_cases (L : Int) (f : List Nd) : (∃ l m, FGood L f ∧ found (backS L f) (vec f []) = some l ∧ found (Nf.T (Nf.mir (Nf.ofA (backA L f l)))) (Nf.beg (Nf.mir (Nf.ofA (backA L f l)))) = some m ∧ mkOut L f = (frontA L f l m, 0)) ∨ ∃ k, mkOut L f = (zeroA, k + 1) ∧ (FGood L f → k = 3) := by
  unfold mkOut
  by_cases h0 : (bkOut L f).2 = 0
  · rw [if_pos h0]
    obtain ⟨hg, l, hl, e, gd⟩ := bkOut_good h0
    rw [e] at gd ⊢
    have gm := Nf.mir_good (Nf.of_good gd)
    rw [Nf.makeOut_ok (Nf.nchk_iff.2 gm)]
    rcases hm : found (Nf.T (Nf.mir (Nf.ofA (backA L f l)))) (Nf.beg (Nf.mir (Nf.ofA (backA L f l)))) with _ | m
    · exact .inr ⟨3, by rw [explOut_none hm], fun _ => rfl⟩
    · exact .inl ⟨l, m, hg, hl, hm, by rw [explOut_some hm]; rfl⟩
  · rw [if_neg h0]
    rcases bk_cases L f with ⟨l, _, _, h⟩ | ⟨k, h, hk⟩
    · rw [h] at h0; exact absurd rfl h0
    · exact .inr ⟨k, by rw [h], hk⟩
end Go.Proofs.YtnlkkfcjonchgaaDoor.Fm
