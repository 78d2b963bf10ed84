/-
  The statement PastMirrorsCardSaid of this seat, proved: for every input the law returns true and its arguments read behind the call as before. Conditions: none but the row's own (each argument within the reach; the listed variable as the program lays it, tied by the given tie).
-/
import Derived.Test.YtdkbdoogjehkfaaDoorRows
import Derived.Test.YtdkbdoogjehkfaaDoorCards
import Derived.Test.YtdkbdoogjehkfaaDoorTie
import Derived.SevenTiedAt
import Derived.LaidLaws
import Derived.LaidHandle
import Derived.LaidMore
import Derived.Lay
import Derived.MakeChecks
import Derived.Stop.Joined
import Derived.JoinedOf
import Derived.RowKit
import Derived.RowKitTokens
import Derived.ChangeSame
import Derived.ChangeVars
import Derived.Test.YtdkbdoogjehkfaaDoorWords
import Derived.WalkKit
import Derived.ProofKit
import Derived.OpenShut
import Derived.ShutString
import Derived.ChangeOld
import Derived.Below
import Derived.SizedLaws
import Derived.Lib.Hide
import Derived.Test.YtdkbdoogjehkfaaDoorRefPf
import Derived.Test.YtdkbdoogjehkfaaDoorRefPast
import Derived.Test.YtdkbdoogjehkfaaDoorSameNodes
import Derived.Test.YtdkbdoogjehkfaaDoorSays
namespace Go.Proofs.YtdkbdoogjehkfaaDoor.pastMirrors
open Go.ChangeShapes Go.WideShapes Go.ChangeAt Go.RowKit Go.IntWalk Go.Proofs.YtdkbdoogjehkfaaDoor.Wd
open Go.ChangeMaps (open_string shut_string)
set_option linter.unusedVariables false

theorem own : ownKnob Tryd.prog.godebug = none := by kernel_rfl
theorem laidOut : laidOutB Tryd.prog = true := by kernel_rfl
theorem et : Tryd.prog.globalNamed "errors.errorType" = some 0 := by kernel_rfl
theorem rt : (Tryd.prog.cutTypes.find? (·.1 == "internal/reflectlite.rtype")).map (·.2) = some 103 := by kernel_rfl
theorem oneRow : ((List.range 146).filter fun t => Tryd.prog.rowNamed t [101, 114, 114, 111, 114]) = [28] := by kernel_rfl
theorem size : Tryd.prog.types.size = 146 := by kernel_rfl
/-- What the condition gives a walk: the variable's one cell. -/
theorem handle_of_laid {w : World} (h : laidMetH Tryd.prog [("errors.errorType", Rows.laid_errors_errorType)] w) : w.cell? ⟨0, 0, none⟩ = some (.iface 103 (.agg #[.pointer (some ⟨1, 28, none⟩)])) := by
  have h' : laidMet Tryd.prog [] w ∧ handlesMet Tryd.prog [("errors.errorType", Rows.laid_errors_errorType)] w := h
  obtain ⟨name, u, ty, e1, e2, e3, e4, e5⟩ := h'.2 _ (List.mem_singleton.2 rfl)
  have en : name = [101, 114, 114, 111, 114] := (Option.some.inj e1).symm
  subst en
  obtain rfl := Option.some.inj (rt.symm.trans e2)
  have hm : ty ∈ (List.range 146).filter fun t => Tryd.prog.rowNamed t [101, 114, 114, 111, 114] := List.mem_filter.2 ⟨List.mem_range.2 (by rw [← size]; exact e3), e4⟩
  rw [oneRow] at hm
  obtain rfl := List.mem_singleton.1 hm
  have hh : typeHandle Tryd.prog 28 = .pointer (some ⟨1, 28, none⟩) := by kernel_rfl
  rw [hh] at e5
  simpa using World.var?_cell et e5 0
/-- A world that meets the condition. -/
noncomputable def laidWorld (os : Os) : World :=
  let w0 := World.holding Tryd.prog os ⟨#[], #[], []⟩
  { w0 with heap := w0.heap.modify 0 fun
      | .cells _ t frozen => .cells #[.iface 103 (.agg #[.pointer (some ⟨1, 28, none⟩)])] t frozen
      | o => o }
theorem laidWorld_met (os : Os) (args : Array Value) : laidMetH Tryd.prog [("errors.errorType", Rows.laid_errors_errorType)] ((laidWorld os).forCall (fun _ _ => 0) ⟨#[], args, []⟩).memory :=
  laidMetH_of_parts (laidMet_nil _ _) (by kernel_rfl)
open Go.Proofs.YtdkbdoogjehkfaaDoor.Wo Go.Proofs.YtdkbdoogjehkfaaDoor.Er Go.Proofs.YtdkbdoogjehkfaaDoor.Fm
theorem says_gives {w : World} (hg : w.cell? ⟨0, 0, none⟩ = some (.iface 103 (.agg #[.pointer (some ⟨1, 28, none⟩)]))) (e : Nat) {E : Value} {K : Int} (hE : errV e = E) (hK : (e : Int) = K) (W : World) (hb : Below w.heap.size w W) :
    Calls Tryd.prog 7 #[E, .int .i64 K] W fun r w' => r = .returned (.bool true) ∧ Below W.heap.size W w' := by
  subst hE
  subst hK
  exact says e hg W hb
theorem pform_is {L : Int} {f : List Nd} {n : Nat} (hn : f.length = n) (hf : f.length ≤ 9223372036854775807) {K : Int} (hK : (fchk L (mrF f) : Int) = K) (A : Option Addr) (c : Nat) (W : World) (hA : NodesAt W W.heap.size A f) :
    Calls Tryd.prog 6 #[.int .i64 L, .slice A n c, .bool true] W fun e w' => e = .returned (.int .i64 K) ∧ Below W.heap.size W w' := by
  subst hn hK
  exact (rpform_any L A c f W hA hf).mono fun e w' ⟨h, hw⟩ => ⟨h.out, by rw [hw]; exact Below.refl _ _⟩
theorem nodes_same {x : List Nd} {n : Nat} (hn : x.length = n) (hb : n ≤ 1000) (a b : Option Addr) (ca cb : Nat) (W : World) (h1 : NodesAt W W.heap.size a x) (h2 : NodesAt W W.heap.size b x) :
    Calls Tryd.prog 18 #[.slice a n ca, .slice b n cb] W fun e w' => e = .returned (.bool true) ∧ Below W.heap.size W w' := by
  subst hn
  exact sameNodes_any a b ca cb x W h1 h2 (by omega)
theorem rahead_is {L : Int} {f : List Nd} {n : Nat} (hn : f.length = n) (g : FGood L (mrF f)) (A : Option Addr) (c : Nat) (W : World) (hA : NodesAt W W.heap.size A f) :
    Calls Tryd.prog 16 #[.slice A n c] W fun e w' => Hid (∃ A' c', e = .returned (.slice A' n c') ∧ Hid (NodesAt w' w'.heap.size A' (mrF f))) ∧ Below W.heap.size W w' := by
  subst hn
  refine (rahead_any A c f W hA g).mono fun e w' he => ?_
  obtain ⟨v, rfl, ho⟩ := he.out
  obtain ⟨A7, c7, rfl, _, _, h3⟩ := own_nodes ho List.mem_cons_self (nds_small g)
  rw [mrF_length]
  exact ⟨⟨A7, c7, rfl, h3⟩, ho.below⟩

set_option maxRecDepth 100000 in
set_option maxHeartbeats 4000000 in
theorem walk (a0 : Int) (A1 : Option Addr) (c1 : Nat) (z1 : List Fm.Nd) (w : World) (l0 : -9223372036854775808 ≤ a0) (h0 : a0 ≤ 9223372036854775807) (v1 : Fm.NodesAt w w.heap.size A1 z1) (m1 : z1.length ≤ c1) (n1 : c1 ≤ 9223372036854775807) (r1 : z1.length ≤ 5864062014634) (hg : w.cell? ⟨0, 0, none⟩ = some (.iface 103 (.agg #[.pointer (some ⟨1, 28, none⟩)]))) :
    Calls Tryd.prog 4 #[.int .i64 a0, .slice A1 z1.length c1] w fun e w' => e = .returned (.bool true) ∧ Below w.heap.size w w' := by
  have hL : Small a0 := ⟨l0, h0⟩
  have HN1 := Lib.hid v1
  obtain ⟨n, hn⟩ : ∃ n, z1.length = n := ⟨_, rfl⟩
  have hf63 : z1.length ≤ 9223372036854775807 := by omega
  have hc1 : n ≤ c1 := by omega
  by_cases hf : fchk a0 (mrF z1) = 0
  · have g := fchk_iff.1 hf
    have HFm := Lib.hid (pform_is (L := a0) hn hf63 (K := 0) (by rw [hf]; rfl))
    have HM := Lib.hid (fun W hA => pmir_yes hL hn g A1 c1 hc1 W hA)
    have HAh := Lib.hid (fun W hA => rahead_is (L := a0) hn g A1 c1 W hA)
    have HE := Lib.hid (fun W (hb : Below w.heap.size w W) => says_gives hg 0 (E := .nilIface) (K := 0) rfl rfl W hb)
    have HSn := Lib.hid (nodes_same (x := mrF z1) (n := n) (by rw [mrF_length, hn]) (by have := g.le; rw [mrF_length] at this; omega))
    rw [hn]
    clear hn hL hf g hf63 v1 hg
    go_enter Tryd.func4, Tryd.ntmps4
    go_wp2_with fail
    refine (HFm.out _ _ _ HN1.out).mono ?_
    rintro e w2 ⟨rfl, hb⟩
    have B2 := Lib.hid hb
    replace HN1 := Lib.hid (HN1.out.on hb)
    clear hb HFm
    go_wp2_with fail
    refine (HAh.out _ HN1.out).mono ?_
    rintro e w3 ⟨he, hb⟩
    obtain ⟨A4, c4, rfl, N4⟩ := he.out
    have B3 := Lib.hid (B2.out.trans (hb.mono B2.out.size))
    replace HN1 := Lib.hid (HN1.out.on hb)
    clear hb he HAh
    go_wp2_with fail
    refine (HM.out _ HN1.out).mono ?_
    rintro e w4 ⟨he, hb⟩
    obtain ⟨A5, c5, rfl, _, _, N5⟩ := he.out
    have B4 := Lib.hid (B3.out.trans (hb.mono B3.out.size))
    replace HN1 := Lib.hid (HN1.out.on hb)
    replace N4 := Lib.hid (N4.out.on hb)
    clear hb he HM
    go_wp2_with fail
    refine (HE.out _ B4.out).mono ?_
    rintro e w5 ⟨rfl, hb⟩
    have B5 := Lib.hid (B4.out.trans (hb.mono B4.out.size))
    replace HN1 := Lib.hid (HN1.out.on hb)
    replace N4 := Lib.hid (N4.out.on hb)
    replace N5 := Lib.hid (N5.out.on hb)
    clear hb HE
    go_wp2_with fail
    refine (HSn.out _ _ _ _ _ N5.out N4.out).mono ?_
    rintro e w6 ⟨rfl, hb⟩
    have B6 := Lib.hid (B5.out.trans (hb.mono B5.out.size))
    replace HN1 := Lib.hid (HN1.out.on hb)
    replace N4 := Lib.hid (N4.out.on hb)
    replace N5 := Lib.hid (N5.out.on hb)
    clear hb HSn
    go_wp2
    go_ret
    exact ⟨rfl, B6.out⟩
  · obtain ⟨q, hq⟩ : ∃ q : Int, q = (fchk a0 (mrF z1) : Int) := ⟨_, rfl⟩
    have HFm := Lib.hid (pform_is (L := a0) hn hf63 (K := q) hq.symm)
    have HM := Lib.hid (fun W hA => pmir_no hL hf63 hn hf A1 c1 hc1 W hA)
    have HE := Lib.hid (fun W (hb : Below w.heap.size w W) => says_gives hg (fchk a0 (mrF z1)) (E := .iface 59 (.int .i64 q)) (K := q) (by rw [errV_pos hf, hq]) hq.symm W hb)
    rw [errV_pos hf, ← hq] at HM
    have HSn := Lib.hid (nodes_same (x := []) (n := 0) rfl (by decide))
    have HI0 := Lib.hid (fun W => NodesAt.nil W W.heap.size none)
    have hq0 : (q == 0) = false := beq_eq_false_iff_ne.2 (by omega)
    rw [hn]
    clear hn hL hf hf63 v1 hg hq
    go_enter Tryd.func4, Tryd.ntmps4
    go_wp2_with fail
    refine (HFm.out _ _ _ HN1.out).mono ?_
    rintro e w2 ⟨rfl, hb⟩
    have B2 := Lib.hid hb
    replace HN1 := Lib.hid (HN1.out.on hb)
    clear hb HFm
    go_wp2_with fail
    refine (HM.out _ HN1.out).mono ?_
    rintro e w3 ⟨rfl, hb⟩
    have B3 := Lib.hid (B2.out.trans (hb.mono B2.out.size))
    replace HN1 := Lib.hid (HN1.out.on hb)
    clear hb HM
    go_wp2_with fail
    refine (HE.out _ B3.out).mono ?_
    rintro e w4 ⟨rfl, hb⟩
    have B4 := Lib.hid (B3.out.trans (hb.mono B3.out.size))
    replace HN1 := Lib.hid (HN1.out.on hb)
    clear hb HE
    go_wp2_with fail
    refine (HSn.out _ _ _ _ _ (HI0.out _) (HI0.out _)).mono ?_
    rintro e w5 ⟨rfl, hb⟩
    have B5 := Lib.hid (B4.out.trans (hb.mono B4.out.size))
    replace HN1 := Lib.hid (HN1.out.on hb)
    clear hb HSn HI0
    go_wp2
    go_ret
    exact ⟨rfl, B5.out⟩


set_option maxRecDepth 100000 in
theorem lifted (os : Os) (started : os.Started) (H : Type) (enc : TypeId × Value → H) :
    ReturnsInHanded {} Tryd.checked os 4 .any (fun w args => (Rows.pastMirrorsSpec.pre enc Tryd.prog Tryd.f4 Rows.pastMirrorsRow.domain false w args ∧ laidMetH Tryd.prog [("errors.errorType", Rows.laid_errors_errorType)] w) ∧ sizedMet enc Tryd.prog Tryd.f4 (OpenSpec.ofChange Rows.pastMirrorsSpec) false w args) (Rows.pastMirrorsSpec.post enc Tryd.prog Tryd.f4 false true false false) := by
  refine returnsInHanded_of_change_and (C := Tryd.checked) (X := fun w _ => laidMetH Tryd.prog [("errors.errorType", Rows.laid_errors_errorType)] w) (fun _ _ _ hh h => h.of_heap hh) own started (by kernel_rfl) Tryd.func4
    (ChangeSpec.witness_at (enc := enc) (C := Tryd.checked) (os := os) (X := fun w _ => laidMetH Tryd.prog [("errors.errorType", Rows.laid_errors_errorType)] w) false (laidWorld os) #[.int .i64 0, .slice none 0 0] 8 rfl (by kernel_rfl) (by kernel_rfl) (by kernel_rfl) (by kernel_rfl) (by kernel_rfl) (laidWorld_met os _)) ?_
  intro W base args ds gs before hval0 hW hcnd hsz0 hL _
  have hval : ∀ (j : Nat) t v, Tryd.f4.params[j]? = some t → args[j]? = some v → Value.okWide Tryd.prog W .any base t v := hval0
  have hsz : (DataW.weightsEach Tryd.prog (Tryd.f4.params.toList ++ Rows.pastMirrorsSpec.plain.varTypes Tryd.prog) (ds ++ gs)).all (· ≤ reachBytes) = true := hsz0
  have hW' := hW
  obtain ⟨p, q, hA0, hV0, rfl, hfz, hnd⟩ := hW
  have hV : DataW.TrodVars enc Tryd.prog W (fun _ => true) [] gs q := hV0
  have hA : DataW.TrodAll enc Tryd.prog W 0 (fun _ => true) true Tryd.f4.params.toList args.toList ds p := hA0
  rw [Tryd.params4] at hA hval hsz
  obtain ⟨v0, vs0, d0, ds0, p0, q0, hargs, rfl, rfl, h0, rr0⟩ := trodAll_cons hA
  obtain ⟨v1, vs1, d1, ds1, p1, q1, rfl, rfl, rfl, h1, rr1⟩ := trodAll_cons rr0
  obtain ⟨rfl, rfl, rfl⟩ := trodAll_nil rr1
  obtain rfl : args = #[v0, v1] := by cases args; simp_all
  obtain ⟨rfl, rfl⟩ := trodVars_none hV
  have k0 := h0
  have lt0 : ∀ x ∈ p0, x.block < W.heap.size := by obtain ⟨m, hm⟩ := k0; exact DataW.trod_lt m _ _ _ hm
  have k1 := h1
  have lt1 : ∀ x ∈ p1, x.block < W.heap.size := by obtain ⟨m, hm⟩ := k1; exact DataW.trod_lt m _ _ _ hm
  obtain ⟨a0, rfl, rfl, rfl, w0⟩ := open_int Tryd.underlying3 (hval 0 3 v0 rfl rfl) h0
  obtain ⟨l0, hh0⟩ := bounds_i64 w0
  obtain ⟨A1, c1, z1, rfl, m1, n1, x1, r1⟩ : ∃ (A : Option Addr) (c : Nat) (l : List Fm.Nd), v1 = .slice A l.length c ∧ l.length ≤ c ∧ c ≤ 9223372036854775807 ∧ Fm.NodesAt W W.heap.size A l ∧ l.length ≤ 5864062014634 := by
    obtain ⟨A, len, c, rfl⟩ := okWide_slice Tryd.underlying22 (hval 1 22 v1 rfl rfl)
    obtain ⟨fuel, hf⟩ := h1
    obtain ⟨A2, c2, l, hcs, q1, q2, q3, q4⟩ := Fm.open_nodes hf
    simp [Value.cells] at hcs
    obtain ⟨rfl, rfl, rfl⟩ := hcs
    refine ⟨_, _, l, rfl, q1, q2, q3, ?_⟩
    rcases q4 with q4 | ⟨es, sp, hd, hl⟩
    · omega
    · have := sized_slice hsz (j := 1) (t := 22) (e := 57) (elems := es) (spare := sp) rfl (by rw [← hd]; rfl) Tryd.underlying22
      rw [(show Tryd.prog.bytesOf 57 = 24 by kernel_rfl)] at this
      simp only [reachBytes] at this
      omega
  clear hA0 hval0
  refine (walk a0 A1 c1 z1 W l0 hh0 x1 m1 n1 r1 (handle_of_laid hL)).mono fun e W' ⟨he, bel⟩ => ?_
  subst he
  exact ⟨_, rfl, _, _, _, [], _, [], hW', trodAll_mk1 (shut_bool Tryd.underlying4 _), (trodAll_cons_mk (Below.trod laidOut (by kernel_rfl) (of_decide_eq_true (by kernel_rfl)) k0 bel lt0) (trodAll_cons_mk (Below.trod laidOut (by kernel_rfl) (of_decide_eq_true (by kernel_rfl)) k1 bel lt1) trodAll_mk0)), rfl, bel.frame _, fun h => by cases h⟩

theorem over : Rows.pastMirrorsRow.holds Tryd.pinned (OpenSpec.ofChange Rows.pastMirrorsSpec) :=
  OpenClaim.holds_of_wide 4 Tryd.f4 rfl rfl rfl rfl rfl rfl rfl ⟨rfl, rfl, rfl, rfl, rfl⟩ rfl rfl rfl rfl rfl (by kernel_rfl) Tryd.func4 (by kernel_rfl)
    (of_decide_eq_true (by kernel_rfl)) (by unfold Func.isWrapper; rw [if_neg (of_decide_eq_false (by kernel_rfl))]; exact ⟨rfl, rfl⟩)
    (fun os started H enc _ => lifted os started H enc)
theorem proved : Rows.PastMirrorsCardSaid :=
  Claim7.holds_tied_plain_at .later [] [.handle] true (true, "052976ef47c006fc6db55b391aee047266882a13868b527c28e54604fc64ad30") true
    over (fun _ h => by cases h) (by kernel_rfl) (fun _ h => by cases h) pastMirrors_row_tie rfl ⟨rfl, rfl⟩ (by kernel_rfl) rfl
    (fun f fn hf hfn => by
      obtain rfl : f = 4 := Option.some.inj ((show Tryd.prog.funcNamed "stileward/stilewardlaw3.PastMirrors" = some 4 by kernel_rfl).symm.trans hf) |>.symm
      obtain rfl : fn = Tryd.f4 := (Option.some.inj (Tryd.func4.symm.trans hfn)).symm
      exact ⟨by kernel_rfl, fun j t ht => by
        rw [Tryd.params4] at ht
        rcases j with _ | _ | j
        · obtain rfl : 3 = t := by simpa using ht
          exact (show Tryd.prog.wantsStandIn 3 = false by kernel_rfl)
        · obtain rfl : 22 = t := by simpa using ht
          exact (show Tryd.prog.wantsStandIn 22 = false by kernel_rfl)
        · simp at ht⟩)
    (by kernel_rfl)
#print axioms proved
end Go.Proofs.YtdkbdoogjehkfaaDoor.pastMirrors
