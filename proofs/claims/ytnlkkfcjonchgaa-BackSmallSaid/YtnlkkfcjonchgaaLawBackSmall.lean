/-
  The statement BackSmallSaid of this seat, proved: for every input the law returns true and its arguments read behind the call as before. Conditions: none but the row's own (each argument within the reach).
-/
import Derived.Test.YtnlkkfcjonchgaaRows
import Derived.Test.YtnlkkfcjonchgaaWords
import Derived.WalkKit
import Derived.ProofKit
import Derived.OpenShut
import Derived.ShutString
import Derived.ChangeOld
import Derived.Below
import Derived.SizedLaws
import Derived.Lib.Hide
import Derived.Test.YtnlkkfcjonchgaaBackQ
import Derived.Test.YtnlkkfcjonchgaaMinW
namespace Go.Proofs.Ytnlkkfcjonchgaa.backSmall
open Go.ChangeShapes Go.WideShapes Go.ChangeAt Go.RowKit Go.IntWalk Go.Proofs.Ytnlkkfcjonchgaa.Wd
open Go.ChangeMaps (open_string shut_string)
set_option linter.unusedVariables false

theorem own : ownKnob Try.prog.godebug = none := by kernel_rfl
theorem laidOut : laidOutB Try.prog = true := by kernel_rfl
open Go.Proofs.Ytnlkkfcjonchgaa.Wo Go.Proofs.Ytnlkkfcjonchgaa.Df Go.Proofs.Ytnlkkfcjonchgaa.Sm Go.Proofs.Ytnlkkfcjonchgaa.Mp Go.Proofs.Ytnlkkfcjonchgaa.Fm

set_option maxRecDepth 100000 in
set_option maxHeartbeats 4000000 in
theorem walk (a0 : Int) (A1 : Option Addr) (c1 : Nat) (z1 : List Fm.Nd) (w : World) (l0 : -9223372036854775808 ≤ a0) (h0 : a0 ≤ 9223372036854775807) (v1 : Fm.NodesAt w w.heap.size A1 z1) (m1 : z1.length ≤ c1) (n1 : c1 ≤ 9223372036854775807) (r1 : z1.length ≤ 5864062014634) :
    Calls Try.prog 3 #[.int .i64 a0, .slice A1 z1.length c1] w fun e w' => e = .returned (.bool true) ∧ Below w.heap.size w w' := by
  have hL : Small a0 := ⟨l0, h0⟩
  have hlen : z1.length ≤ 9223372036854775807 := by omega
  rcases mk_cases a0 z1 with ⟨l, m, hg, hl, hm, hr⟩ | ⟨k, hr⟩
  · have HM := Lib.hid (bmake_gives (E := .nilIface) (c := c1) hL v1 hlen hr rfl)
    have gr := front_good hg hl hm
    have hmin := front_min hg hl hm
    generalize frontA a0 z1 l m = r at *
    have HMin := Lib.hid (fun W v (h : DfaAt W W.heap.size v r) => min_gives (E := .nilIface) h ((minOut_ok (dchk_iff.2 gr)).trans (by rw [hmin])) rfl)
    have HSm := Lib.hid (fun W v z (h : DfaAt W W.heap.size v r) (h2 : DfaAt W W.heap.size z r) => same_gives h h2 gr.lite rfl)
    have HN : Hid (1 ≤ r.next.length) := gr.n1
    clear hg hl hm hr gr hmin v1 hlen
    generalize z1.length = n at *
    go_enter Try.func3, Try.ntmps3
    go_wp2_with fail
    refine HM.out.mono ?_
    rintro e u1 ⟨L5, s5, A5, n5, c5, F5, m5, k5, rfl, hd, hb⟩
    have B := Lib.hid hb
    have hn5 : (0 : Int) < (n5 : Int) := by have := hd.out.eqs.2.2.1; have := HN.out; omega
    obtain ⟨x1, hx1, hbn, Vn⟩ := var_new u1 hd.out
    have HX := Lib.hid hx1
    have VA := Lib.hid Vn
    have B := Lib.hid (B.out.trans (hbn.mono B.out.size))
    clear hb hd hx1 hbn Vn HM HN
    obtain ⟨p0, p1, p2, p3, p4⟩ := VA.out.box
    go_wp2_with fail
    rw [← HX.out]
    clear HX
    refine (HMin.out _ _ VA.out.at_).mono ?_
    rintro e u2 ⟨L6, s6, A6, n6, c6, F6, m6, k6, rfl, hd, hb⟩
    have B := Lib.hid (B.out.trans (hb.mono B.out.size))
    have VA := Lib.hid (VA.out.on hb)
    obtain ⟨x2, hx2, hbn, Vn⟩ := var_new u2 hd.out
    have HX := Lib.hid hx2
    have VB := Lib.hid Vn
    have VA := Lib.hid (VA.out.on hbn)
    have B := Lib.hid (B.out.trans (hbn.mono B.out.size))
    clear hb hd hbn Vn HMin p0 p1 p2 p3 p4
    obtain ⟨p0, p1, p2, p3, p4⟩ := VA.out.box
    obtain ⟨q0, q1, q2, q3, q4⟩ := VB.out.box
    rw [hx2] at p1 p2 p3 p4 q1 q2 q3 q4
    clear hx2
    go_wp2_with fail
    rw [← HX.out]
    clear HX
    refine (HSm.out _ _ _ VA.out.at_ VB.out.at_).mono ?_
    rintro e u3 ⟨rfl, hb⟩
    have B := Lib.hid (B.out.trans (hb.mono B.out.size))
    clear hb HSm VA VB p0 p1 p2 p3 p4 q0 q1 q2 q3 q4
    go_wp2
    go_ret
    exact ⟨rfl, B.out⟩
  · have HM := Lib.hid (bmake_gives (E := .iface 95 (.int .i64 ((k + 1 : Nat) : Int))) (c := c1) hL v1 hlen hr rfl)
    clear hr v1 hlen
    generalize ((k + 1 : Nat) : Int) = kk at *
    generalize z1.length = n at *
    go_enter Try.func3, Try.ntmps3
    go_wp2_with fail
    refine HM.out.mono ?_
    rintro e u1 ⟨L5, s5, A5, n5, c5, F5, m5, k5, rfl, hd, hb⟩
    have B := Lib.hid hb
    obtain rfl : n5 = 0 := by have := hd.out.eqs.2.2.1; simpa [zeroA] using this.symm
    obtain rfl : m5 = 0 := by have := hd.out.eqs.2.2.2; simpa [zeroA] using this.symm
    obtain ⟨x1, hx1, hbn, Vn⟩ := var_new u1 hd.out
    have VA := Lib.hid Vn
    have HX := Lib.hid hx1
    have B := Lib.hid (B.out.trans (hbn.mono B.out.size))
    obtain ⟨p0, p1, p2, p3, p4⟩ := VA.out.box
    rw [hx1] at p1 p2 p3 p4 B
    clear hb hd hx1 hbn Vn HM VA HX p0
    go_wp2
    go_ret
    exact ⟨rfl, B.out⟩


set_option maxRecDepth 100000 in
theorem lifted (os : Os) (started : os.Started) (H : Type) (enc : TypeId × Value → H) :
    ReturnsInHanded {} Try.checked os 3 .any (Rows.backSmallSpec.pre6 enc Try.prog Try.f3 Rows.backSmallRow.domain false) (Rows.backSmallSpec.post enc Try.prog Try.f3 false true false false) := by
  refine returnsInHanded_of_change_sized (C := Try.checked) own started (by kernel_rfl) Try.func3
    (ChangeSpec.witness6 (enc := enc) (C := Try.checked) false ⟨#[], #[.int .i64 0, .slice none 0 0], []⟩ 8 (by kernel_rfl) (by kernel_rfl) (by kernel_rfl) (by kernel_rfl)) ?_
  intro W base args ds gs before hval0 hW hcnd hsz0 _
  have hval : ∀ (j : Nat) t v, Try.f3.params[j]? = some t → args[j]? = some v → Value.okWide Try.prog W .any base t v := hval0
  have hsz : (DataW.weightsEach Try.prog (Try.f3.params.toList ++ Rows.backSmallSpec.plain.varTypes Try.prog) (ds ++ gs)).all (· ≤ reachBytes) = true := hsz0
  have hW' := hW
  obtain ⟨p, q, hA0, hV0, rfl, hfz, hnd⟩ := hW
  have hV : DataW.TrodVars enc Try.prog W (fun _ => true) [] gs q := hV0
  have hA : DataW.TrodAll enc Try.prog W 0 (fun _ => true) true Try.f3.params.toList args.toList ds p := hA0
  rw [Try.params3] at hA hval hsz
  obtain ⟨v0, vs0, d0, ds0, p0, q0, hargs, rfl, rfl, h0, rr0⟩ := trodAll_cons hA
  obtain ⟨v1, vs1, d1, ds1, p1, q1, rfl, rfl, rfl, h1, rr1⟩ := trodAll_cons rr0
  obtain ⟨rfl, rfl, rfl⟩ := trodAll_nil rr1
  obtain rfl : args = #[v0, v1] := by cases args; simp_all
  obtain ⟨rfl, rfl⟩ := trodVars_none hV
  have k0 := h0
  have lt0 : ∀ x ∈ p0, x.block < W.heap.size := by obtain ⟨m, hm⟩ := k0; exact DataW.trod_lt m _ _ _ hm
  have k1 := h1
  have lt1 : ∀ x ∈ p1, x.block < W.heap.size := by obtain ⟨m, hm⟩ := k1; exact DataW.trod_lt m _ _ _ hm
  obtain ⟨a0, rfl, rfl, rfl, w0⟩ := open_int Try.underlying3 (hval 0 3 v0 rfl rfl) h0
  obtain ⟨l0, hh0⟩ := bounds_i64 w0
  obtain ⟨A1, c1, z1, rfl, m1, n1, x1, r1⟩ : ∃ (A : Option Addr) (c : Nat) (l : List Fm.Nd), v1 = .slice A l.length c ∧ l.length ≤ c ∧ c ≤ 9223372036854775807 ∧ Fm.NodesAt W W.heap.size A l ∧ l.length ≤ 5864062014634 := by
    obtain ⟨A, len, c, rfl⟩ := okWide_slice Try.underlying22 (hval 1 22 v1 rfl rfl)
    obtain ⟨fuel, hf⟩ := h1
    obtain ⟨A2, c2, l, hcs, q1, q2, q3, q4⟩ := Fm.open_nodes hf
    simp [Value.cells] at hcs
    obtain ⟨rfl, rfl, rfl⟩ := hcs
    refine ⟨_, _, l, rfl, q1, q2, q3, ?_⟩
    rcases q4 with q4 | ⟨es, sp, hd, hl⟩
    · omega
    · have := sized_slice hsz (j := 1) (t := 22) (e := 36) (elems := es) (spare := sp) rfl (by rw [← hd]; rfl) Try.underlying22
      rw [(show Try.prog.bytesOf 36 = 24 by kernel_rfl)] at this
      simp only [reachBytes] at this
      omega
  clear hA0 hval0
  refine (walk a0 A1 c1 z1 W l0 hh0 x1 m1 n1 r1).mono fun e W' ⟨he, bel⟩ => ?_
  subst he
  exact ⟨_, rfl, _, _, _, [], _, [], hW', trodAll_mk1 (shut_bool Try.underlying4 _), (trodAll_cons_mk (Below.trod laidOut (by kernel_rfl) (of_decide_eq_true (by kernel_rfl)) k0 bel lt0) (trodAll_cons_mk (Below.trod laidOut (by kernel_rfl) (of_decide_eq_true (by kernel_rfl)) k1 bel lt1) trodAll_mk0)), rfl, bel.frame _, fun h => by cases h⟩

theorem over : Rows.backSmallRow.holds Try.pinned (OpenSpec.ofChange Rows.backSmallSpec) :=
  OpenClaim.holds_of_wide 3 Try.f3 rfl rfl rfl rfl rfl rfl rfl ⟨rfl, rfl, rfl, rfl, rfl⟩ rfl rfl rfl rfl rfl (by kernel_rfl) Try.func3 (by kernel_rfl)
    (of_decide_eq_true (by kernel_rfl)) (by unfold Func.isWrapper; rw [if_neg (of_decide_eq_false (by kernel_rfl))]; exact ⟨rfl, rfl⟩)
    (fun os started H enc _ => lifted os started H enc)
theorem proved : Rows.BackSmallSaid := over
#print axioms proved
end Go.Proofs.Ytnlkkfcjonchgaa.backSmall
