/-
  The statement MeanSaysCardSaid of this seat, proved: for every input the law returns true and its arguments read behind the call as before. Conditions: none but the row's own (each argument within the reach; the listed variable as the program lays it, tied by the given tie).
-/
import Derived.Test.YtaelgnmklepebaaDoorRows
import Derived.Test.YtaelgnmklepebaaDoorCards
import Derived.Test.YtaelgnmklepebaaDoorTie
import Derived.SevenTiedAt
import Derived.LaidLaws
import Derived.LaidHandle
import Derived.LaidMore
import Derived.Lay
import Derived.MakeChecks
import Derived.Stop.Joined
import Derived.JoinedOf
import Derived.RowKit
import Derived.RowKitTokens
import Derived.ChangeSame
import Derived.ChangeVars
import Derived.Test.YtaelgnmklepebaaDoorWords
import Derived.WalkKit
import Derived.ProofKit
import Derived.OpenShut
import Derived.ShutString
import Derived.ChangeOld
import Derived.Below
import Derived.SizedLaws
import Derived.Lib.Hide
import Derived.Test.YtaelgnmklepebaaDoorMeanL
import Derived.Test.YtaelgnmklepebaaDoorRefAt
import Derived.Test.YtaelgnmklepebaaDoorRefForm
import Derived.Test.YtaelgnmklepebaaDoorSameB
import Derived.Test.YtaelgnmklepebaaDoorSays
namespace Go.Proofs.YtaelgnmklepebaaDoor.meanSays
open Go.ChangeShapes Go.WideShapes Go.ChangeAt Go.RowKit Go.IntWalk Go.Proofs.YtaelgnmklepebaaDoor.Wd
open Go.ChangeMaps (open_string shut_string)
set_option linter.unusedVariables false

theorem own : ownKnob Tryd.prog.godebug = none := by kernel_rfl
theorem laidOut : laidOutB Tryd.prog = true := by kernel_rfl
theorem et : Tryd.prog.globalNamed "errors.errorType" = some 1 := by kernel_rfl
theorem rt : (Tryd.prog.cutTypes.find? (·.1 == "internal/reflectlite.rtype")).map (·.2) = some 123 := by kernel_rfl
theorem oneRow : ((List.range 175).filter fun t => Tryd.prog.rowNamed t [101, 114, 114, 111, 114]) = [25] := by kernel_rfl
theorem size : Tryd.prog.types.size = 175 := by kernel_rfl
/-- What the condition gives a walk: the variable's one cell. -/
theorem handle_of_laid {w : World} (h : laidMetH Tryd.prog [("errors.errorType", Rows.laid_errors_errorType)] w) : w.cell? ⟨1, 0, none⟩ = some (.iface 123 (.agg #[.pointer (some ⟨5, 25, none⟩)])) := by
  have h' : laidMet Tryd.prog [] w ∧ handlesMet Tryd.prog [("errors.errorType", Rows.laid_errors_errorType)] w := h
  obtain ⟨name, u, ty, e1, e2, e3, e4, e5⟩ := h'.2 _ (List.mem_singleton.2 rfl)
  have en : name = [101, 114, 114, 111, 114] := (Option.some.inj e1).symm
  subst en
  obtain rfl := Option.some.inj (rt.symm.trans e2)
  have hm : ty ∈ (List.range 175).filter fun t => Tryd.prog.rowNamed t [101, 114, 114, 111, 114] := List.mem_filter.2 ⟨List.mem_range.2 (by rw [← size]; exact e3), e4⟩
  rw [oneRow] at hm
  obtain rfl := List.mem_singleton.1 hm
  have hh : typeHandle Tryd.prog 25 = .pointer (some ⟨5, 25, none⟩) := by kernel_rfl
  rw [hh] at e5
  simpa using World.var?_cell et e5 0
/-- A world that meets the condition. -/
noncomputable def laidWorld (os : Os) : World :=
  let w0 := World.holding Tryd.prog os ⟨#[], #[], []⟩
  { w0 with heap := w0.heap.modify 1 fun
      | .cells _ t frozen => .cells #[.iface 123 (.agg #[.pointer (some ⟨5, 25, none⟩)])] t frozen
      | o => o }
theorem laidWorld_met (os : Os) (args : Array Value) : laidMetH Tryd.prog [("errors.errorType", Rows.laid_errors_errorType)] ((laidWorld os).forCall (fun _ _ => 0) ⟨#[], args, []⟩).memory :=
  laidMetH_of_parts (laidMet_nil _ _) (by kernel_rfl)
open Go.Proofs.YtaelgnmklepebaaDoor.Wo Go.Proofs.YtaelgnmklepebaaDoor.Er Go.Proofs.YtaelgnmklepebaaDoor.Fm
theorem says_gives {w : World} (hg : w.cell? ⟨1, 0, none⟩ = some (.iface 123 (.agg #[.pointer (some ⟨5, 25, none⟩)]))) (e : Nat) {E : Value} {K : Int} (hE : errV e = E) (hK : (e : Int) = K) (W : World) (hb : Below w.heap.size w W) :
    Calls Tryd.prog 9 #[E, .int .i64 K] W fun r w' => r = .returned (.bool true) ∧ Below W.heap.size W w' := by
  subst hE
  subst hK
  exact says e hg W hb
theorem bools_same {x : List Bool} {n : Nat} (hn : x.length = n) (hb : n ≤ 1000) (a b : Option Addr) (ca cb : Nat) (W : World) (h1 : Df.BoolsAt W W.heap.size a x) (h2 : Df.BoolsAt W W.heap.size b x) :
    Calls Tryd.prog 15 #[.slice a n ca, .slice b n cb] W fun e w' => e = .returned (.bool true) ∧ Below W.heap.size W w' := by
  subst hn
  refine (Df.bools_any a b ca cb x x W h1 h2 (by omega) (by omega) true (by simp)).mono fun e w' ⟨h, k, hk⟩ => ⟨h, ?_⟩
  rw [hk]; exact below_drewN (Below.refl _ _) k
theorem bools_none (W : World) : Calls Tryd.prog 15 #[.slice none 0 0, .slice none 0 0] W fun e w' => e = .returned (.bool true) ∧ Below W.heap.size W w' :=
  bools_same (x := []) rfl (by decide) none none 0 0 W (Df.BoolsAt.nil _ _ _) (Df.BoolsAt.nil _ _ _)
theorem form_is {L : Int} {f : List Nd} {n : Nat} (hn : f.length = n) (hf : f.length ≤ 9223372036854775807) {K : Int} (hK : (fchk L f : Int) = K) (A : Option Addr) (c : Nat) (W : World) (hA : NodesAt W W.heap.size A f) :
    Calls Tryd.prog 11 #[.int .i64 L, .slice A n c, .bool false] W fun e w' => e = .returned (.int .i64 K) ∧ Below W.heap.size W w' := by
  subst hn hK
  exact (rform_any L A c f W hA hf).mono fun e w' ⟨h, hw⟩ => ⟨h.out, by rw [hw]; exact Below.refl _ _⟩
theorem word_is {L : Int} (hL : Small L) {z : List Int} {n : Nat} (hn : z.length = n) (hz : z.length ≤ 17592186044416) {K : Int} (hK : (chk L z : Int) = K) (B : Option Addr) (c : Nat) (W : World) (hB : IntsAt W W.heap.size B z) :
    Calls Tryd.prog 12 #[.int .i64 L, .slice B n c] W fun e w' => e = .returned (.int .i64 K) ∧ Below W.heap.size W w' := by
  subst hn hK
  exact (refWord_any L B c z W hL hB hz).mono fun e w' ⟨h, hw⟩ => ⟨h.out, by rw [← hw]; exact Below.refl _ _⟩
theorem at_is {L : Int} {f : List Nd} {z : List Int} {n M : Nat} (hn : f.length = n) (hM : z.length = M) (hg : FGood L f) (hz : Fine L z) (A : Option Addr) (c : Nat) (B : Option Addr) (cb : Nat) (W : World) (hA : NodesAt W W.heap.size A f) (hB : IntsAt W W.heap.size B z) :
    Calls Tryd.prog 13 #[.slice A n c, .slice B M cb] W fun e w' => Hid (∃ A' c', e = .returned (.slice A' n c') ∧ Hid (Df.BoolsAt w' w'.heap.size A' (vec f z))) ∧ Below W.heap.size W w' := by
  subst hn hM
  refine (at_any A c f B cb z W hA hB hg hz).mono fun e w' ⟨he, hb⟩ => ⟨?_, hb⟩
  obtain ⟨A', c', h1, _, _, h2⟩ := he.out
  exact ⟨A', c', h1, h2⟩

set_option maxRecDepth 100000 in
set_option maxHeartbeats 4000000 in
theorem walk (a0 : Int) (A1 : Option Addr) (c1 : Nat) (z1 : List Fm.Nd) (A2 : Option Addr) (c2 : Nat) (z2 : List Int) (w : World) (l0 : -9223372036854775808 ≤ a0) (h0 : a0 ≤ 9223372036854775807) (v1 : Fm.NodesAt w w.heap.size A1 z1) (m1 : z1.length ≤ c1) (n1 : c1 ≤ 9223372036854775807) (r1 : z1.length ≤ 5864062014634) (v2 : IntsAt w w.heap.size A2 z2) (r2 : z2.length ≤ 17592186043904) (m2 : z2.length ≤ c2) (hg : w.cell? ⟨1, 0, none⟩ = some (.iface 123 (.agg #[.pointer (some ⟨5, 25, none⟩)]))) :
    Calls Tryd.prog 4 #[.int .i64 a0, .slice A1 z1.length c1, .slice A2 z2.length c2] w fun e w' => e = .returned (.bool true) ∧ Below w.heap.size w w' := by
  have hL : Small a0 := ⟨l0, h0⟩
  have HN1 := Lib.hid v1
  have HZ2 := Lib.hid v2
  obtain ⟨n, hn⟩ : ∃ n, z1.length = n := ⟨_, rfl⟩
  obtain ⟨M, hM⟩ : ∃ M, z2.length = M := ⟨_, rfl⟩
  have hz2 : z2.length ≤ 17592186044416 := by omega
  have hf63 : z1.length ≤ 9223372036854775807 := by omega
  have HB0 := Lib.hid bools_none
  by_cases hf : fchk a0 z1 = 0
  · have HFm := Lib.hid (form_is (L := a0) hn hf63 (K := 0) (by rw [hf]; rfl))
    have g := fchk_iff.1 hf
    by_cases hc : chk a0 z2 = 0
    · have hw := chk_iff.1 hc
      have hv : verr a0 z1 z2 = 0 := verr_iff.2 ⟨g, hw⟩
      have HWd := Lib.hid (word_is hL hM hz2 (K := 0) (by rw [hc]; rfl))
      have HAt := Lib.hid (at_is hn hM g hw)
      have HV := Lib.hid (values_yes hL hn hM hv)
      have HE := Lib.hid (fun W (hb : Below w.heap.size w W) => says_gives hg 0 (E := .nilIface) (K := 0) rfl rfl W hb)
      have HH := Lib.hid (holds_is hL hf63 hz2 hn hM (.inl ⟨hv, rfl, rfl⟩))
      have hn0 : 0 < n := by have := g.ne; omega
      have hn40 : n ≤ 40 := by have := g.le; omega
      have hvl : (vec z1 z2).length = n := (vec_length z1 z2).trans hn
      have HVl := Lib.hid hvl
      have HBs := Lib.hid (bools_same hvl (by omega))
      have hva := vec_at z1 z2 (k := z1.length - 1) (by omega)
      have HVa : Hid ((vec z1 z2)[n - 1]? = some (fval z1 z2)) := by rw [Hid, ← hn]; exact hva
      rw [hn, hM]
      clear hn hM hL hf hc hv g hw hg hz2 hf63 hvl hva v1 v2 HB0
      generalize fval z1 z2 = b at *
      generalize vec z1 z2 = V at *
      obtain ⟨k, rfl⟩ : ∃ k, n = k + 1 := ⟨n - 1, by omega⟩
      go_enter Tryd.func4, Tryd.ntmps4
      go_wp2_with fail
      refine (HFm.out _ _ _ HN1.out).mono ?_
      rintro e w2 ⟨rfl, hb⟩
      have B2 := Lib.hid hb
      replace HN1 := Lib.hid (HN1.out.on hb)
      replace HZ2 := Lib.hid (HZ2.out.on hb)
      clear hb HFm
      go_wp2_with fail
      refine (HWd.out _ _ _ HZ2.out).mono ?_
      rintro e w3 ⟨rfl, hb⟩
      have B3 := Lib.hid (B2.out.trans (hb.mono B2.out.size))
      replace HN1 := Lib.hid (HN1.out.on hb)
      replace HZ2 := Lib.hid (HZ2.out.on hb)
      clear hb HWd
      go_wp2_with fail
      refine (HAt.out _ _ _ _ _ HN1.out HZ2.out).mono ?_
      rintro e w4 ⟨he, hb⟩
      obtain ⟨A4, c4, rfl, N4⟩ := he.out
      have B4 := Lib.hid (B3.out.trans (hb.mono B3.out.size))
      replace HN1 := Lib.hid (HN1.out.on hb)
      replace HZ2 := Lib.hid (HZ2.out.on hb)
      clear hb he HAt
      go_wp2_with fail
      refine (HV.out _ _ _ _ _ HN1.out HZ2.out).mono ?_
      rintro e w5 he
      obtain ⟨g5, rfl, ho⟩ := he.out
      have hb := ho.below
      obtain ⟨A5, c5, hv5, _, _, hB5⟩ := Df.own_bools ho (fv := .slice (some ⟨g5, 0, none⟩) (k + 1) (k + 1)) (bs := V) (by simp)
      simp only [Value.slice.injEq] at hv5
      have N5 := Lib.hid hB5
      rw [← hv5.1] at N5
      have B5 := Lib.hid (B4.out.trans (hb.mono B4.out.size))
      replace HN1 := Lib.hid (HN1.out.on hb)
      replace HZ2 := Lib.hid (HZ2.out.on hb)
      replace N4 := Lib.hid (N4.out.on hb)
      clear hb he ho HV hB5 hv5
      go_wp2_with fail
      refine (HE.out _ B5.out).mono ?_
      rintro e w6 ⟨rfl, hb⟩
      have B6 := Lib.hid (B5.out.trans (hb.mono B5.out.size))
      replace HN1 := Lib.hid (HN1.out.on hb)
      replace HZ2 := Lib.hid (HZ2.out.on hb)
      replace N4 := Lib.hid (N4.out.on hb)
      replace N5 := Lib.hid (N5.out.on hb)
      clear hb 
      go_wp2_with fail
      refine (HBs.out _ _ _ _ _ N5.out N4.out).mono ?_
      rintro e w7 ⟨rfl, hb⟩
      have B7 := Lib.hid (B6.out.trans (hb.mono B6.out.size))
      replace HN1 := Lib.hid (HN1.out.on hb)
      replace HZ2 := Lib.hid (HZ2.out.on hb)
      replace N4 := Lib.hid (N4.out.on hb)
      replace N5 := Lib.hid (N5.out.on hb)
      clear hb HBs
      go_wp2_with fail
      refine (HH.out _ _ _ _ _ HN1.out HZ2.out).mono ?_
      rintro e w8 ⟨rfl, hb⟩
      have B8 := Lib.hid (B7.out.trans (hb.mono B7.out.size))
      replace HN1 := Lib.hid (HN1.out.on hb)
      replace HZ2 := Lib.hid (HZ2.out.on hb)
      replace N4 := Lib.hid (N4.out.on hb)
      replace N5 := Lib.hid (N5.out.on hb)
      clear hb HH
      go_wp2_with fail
      refine (HE.out _ B8.out).mono ?_
      rintro e w9 ⟨rfl, hb⟩
      have B9 := Lib.hid (B8.out.trans (hb.mono B8.out.size))
      replace HN1 := Lib.hid (HN1.out.on hb)
      replace HZ2 := Lib.hid (HZ2.out.on hb)
      replace N4 := Lib.hid (N4.out.on hb)
      replace N5 := Lib.hid (N5.out.on hb)
      clear hb HE
      obtain ⟨ad4, rfl, hadb4, hc4, _⟩ := N4.out.at_ HVa.out
      rw [Nat.add_sub_cancel] at hc4
      go_wp2
      go_ret
      exact ⟨by simp, B9.out⟩
    · have hv : verr a0 z1 z2 = chk a0 z2 := by unfold verr; rw [if_pos hf]
      have hv0 : verr a0 z1 z2 ≠ 0 := by rw [hv]; exact hc
      obtain ⟨q, hq⟩ : ∃ q : Int, q = (verr a0 z1 z2 : Int) := ⟨_, rfl⟩
      have HWd := Lib.hid (word_is hL hM hz2 (K := q) (by rw [hq, hv]))
      have HV := Lib.hid (values_no hL hf63 hz2 hn hM hv0)
      have HH := Lib.hid (holds_is hL hf63 hz2 hn hM (.inr ⟨hv0, rfl, rfl⟩))
      have HE := Lib.hid (fun W (hb : Below w.heap.size w W) => says_gives hg (verr a0 z1 z2) (E := .iface 61 (.int .i64 q)) (K := q) (by rw [errV_pos hv0, hq]) hq.symm W hb)
      rw [errV_pos hv0, ← hq] at HV HH
      have hq0 : (q == 0) = false := beq_eq_false_iff_ne.2 (by omega)
      rw [hn, hM]
      clear hn hM hL hf hc hv hv0 g hg hz2 hf63 v1 v2 hq
      go_enter Tryd.func4, Tryd.ntmps4
      go_wp2_with fail
      refine (HFm.out _ _ _ HN1.out).mono ?_
      rintro e w2 ⟨rfl, hb⟩
      have B2 := Lib.hid hb
      replace HN1 := Lib.hid (HN1.out.on hb)
      replace HZ2 := Lib.hid (HZ2.out.on hb)
      clear hb HFm
      go_wp2_with fail
      refine (HWd.out _ _ _ HZ2.out).mono ?_
      rintro e w3 ⟨rfl, hb⟩
      have B3 := Lib.hid (B2.out.trans (hb.mono B2.out.size))
      replace HN1 := Lib.hid (HN1.out.on hb)
      replace HZ2 := Lib.hid (HZ2.out.on hb)
      clear hb HWd
      go_wp2_with fail
      refine (HV.out _ _ _ _ _ HN1.out HZ2.out).mono ?_
      rintro e w4 ⟨rfl, hb⟩
      have B4 := Lib.hid (B3.out.trans (hb.mono B3.out.size))
      replace HN1 := Lib.hid (HN1.out.on hb)
      replace HZ2 := Lib.hid (HZ2.out.on hb)
      clear hb HV
      go_wp2_with fail
      refine (HE.out _ B4.out).mono ?_
      rintro e w5 ⟨rfl, hb⟩
      have B5 := Lib.hid (B4.out.trans (hb.mono B4.out.size))
      replace HN1 := Lib.hid (HN1.out.on hb)
      replace HZ2 := Lib.hid (HZ2.out.on hb)
      clear hb 
      go_wp2_with fail
      refine (HB0.out _).mono ?_
      rintro e w6 ⟨rfl, hb⟩
      have B6 := Lib.hid (B5.out.trans (hb.mono B5.out.size))
      replace HN1 := Lib.hid (HN1.out.on hb)
      replace HZ2 := Lib.hid (HZ2.out.on hb)
      clear hb HB0
      go_wp2_with fail
      refine (HH.out _ _ _ _ _ HN1.out HZ2.out).mono ?_
      rintro e w7 ⟨rfl, hb⟩
      have B7 := Lib.hid (B6.out.trans (hb.mono B6.out.size))
      replace HN1 := Lib.hid (HN1.out.on hb)
      replace HZ2 := Lib.hid (HZ2.out.on hb)
      clear hb HH
      go_wp2_with fail
      refine (HE.out _ B7.out).mono ?_
      rintro e w8 ⟨rfl, hb⟩
      have B8 := Lib.hid (B7.out.trans (hb.mono B7.out.size))
      replace HN1 := Lib.hid (HN1.out.on hb)
      replace HZ2 := Lib.hid (HZ2.out.on hb)
      clear hb HE
      go_wp2
      go_ret
      exact ⟨rfl, B8.out⟩
  · have hv : verr a0 z1 z2 = fchk a0 z1 := by unfold verr; rw [if_neg hf]
    have hv0 : verr a0 z1 z2 ≠ 0 := by rw [hv]; exact hf
    obtain ⟨q, hq⟩ : ∃ q : Int, q = (verr a0 z1 z2 : Int) := ⟨_, rfl⟩
    have HFm := Lib.hid (form_is (L := a0) hn hf63 (K := q) (by rw [hq, hv]))
    have HV := Lib.hid (values_no hL hf63 hz2 hn hM hv0)
    have HH := Lib.hid (holds_is hL hf63 hz2 hn hM (.inr ⟨hv0, rfl, rfl⟩))
    have HE := Lib.hid (fun W (hb : Below w.heap.size w W) => says_gives hg (verr a0 z1 z2) (E := .iface 61 (.int .i64 q)) (K := q) (by rw [errV_pos hv0, hq]) hq.symm W hb)
    rw [errV_pos hv0, ← hq] at HV HH
    have hq0 : (q == 0) = false := beq_eq_false_iff_ne.2 (by omega)
    rw [hn, hM]
    clear hn hM hL hf hv hv0 hg hz2 hf63 v1 v2 hq
    go_enter Tryd.func4, Tryd.ntmps4
    go_wp2_with fail
    refine (HFm.out _ _ _ HN1.out).mono ?_
    rintro e w2 ⟨rfl, hb⟩
    have B2 := Lib.hid hb
    replace HN1 := Lib.hid (HN1.out.on hb)
    replace HZ2 := Lib.hid (HZ2.out.on hb)
    clear hb HFm
    go_wp2_with fail
    refine (HV.out _ _ _ _ _ HN1.out HZ2.out).mono ?_
    rintro e w3 ⟨rfl, hb⟩
    have B3 := Lib.hid (B2.out.trans (hb.mono B2.out.size))
    replace HN1 := Lib.hid (HN1.out.on hb)
    replace HZ2 := Lib.hid (HZ2.out.on hb)
    clear hb HV
    go_wp2_with fail
    refine (HE.out _ B3.out).mono ?_
    rintro e w4 ⟨rfl, hb⟩
    have B4 := Lib.hid (B3.out.trans (hb.mono B3.out.size))
    replace HN1 := Lib.hid (HN1.out.on hb)
    replace HZ2 := Lib.hid (HZ2.out.on hb)
    clear hb 
    go_wp2_with fail
    refine (HB0.out _).mono ?_
    rintro e w5 ⟨rfl, hb⟩
    have B5 := Lib.hid (B4.out.trans (hb.mono B4.out.size))
    replace HN1 := Lib.hid (HN1.out.on hb)
    replace HZ2 := Lib.hid (HZ2.out.on hb)
    clear hb HB0
    go_wp2_with fail
    refine (HH.out _ _ _ _ _ HN1.out HZ2.out).mono ?_
    rintro e w6 ⟨rfl, hb⟩
    have B6 := Lib.hid (B5.out.trans (hb.mono B5.out.size))
    replace HN1 := Lib.hid (HN1.out.on hb)
    replace HZ2 := Lib.hid (HZ2.out.on hb)
    clear hb HH
    go_wp2_with fail
    refine (HE.out _ B6.out).mono ?_
    rintro e w7 ⟨rfl, hb⟩
    have B7 := Lib.hid (B6.out.trans (hb.mono B6.out.size))
    replace HN1 := Lib.hid (HN1.out.on hb)
    replace HZ2 := Lib.hid (HZ2.out.on hb)
    clear hb HE
    go_wp2
    go_ret
    exact ⟨rfl, B7.out⟩


set_option maxRecDepth 100000 in
theorem lifted (os : Os) (started : os.Started) (H : Type) (enc : TypeId × Value → H) :
    ReturnsInHanded {} Tryd.checked os 4 .any (fun w args => (Rows.meanSaysSpec.pre enc Tryd.prog Tryd.f4 Rows.meanSaysRow.domain false w args ∧ laidMetH Tryd.prog [("errors.errorType", Rows.laid_errors_errorType)] w) ∧ sizedMet enc Tryd.prog Tryd.f4 (OpenSpec.ofChange Rows.meanSaysSpec) false w args) (Rows.meanSaysSpec.post enc Tryd.prog Tryd.f4 false true false false) := by
  refine returnsInHanded_of_change_and (C := Tryd.checked) (X := fun w _ => laidMetH Tryd.prog [("errors.errorType", Rows.laid_errors_errorType)] w) (fun _ _ _ hh h => h.of_heap hh) own started (by kernel_rfl) Tryd.func4
    (ChangeSpec.witness_at (enc := enc) (C := Tryd.checked) (os := os) (X := fun w _ => laidMetH Tryd.prog [("errors.errorType", Rows.laid_errors_errorType)] w) false (laidWorld os) #[.int .i64 0, .slice none 0 0, .slice none 0 0] 8 rfl (by kernel_rfl) (by kernel_rfl) (by kernel_rfl) (by kernel_rfl) (by kernel_rfl) (laidWorld_met os _)) ?_
  intro W base args ds gs before hval0 hW hcnd hsz0 hL _
  have hval : ∀ (j : Nat) t v, Tryd.f4.params[j]? = some t → args[j]? = some v → Value.okWide Tryd.prog W .any base t v := hval0
  have hsz : (DataW.weightsEach Tryd.prog (Tryd.f4.params.toList ++ Rows.meanSaysSpec.plain.varTypes Tryd.prog) (ds ++ gs)).all (· ≤ reachBytes) = true := hsz0
  have hW' := hW
  obtain ⟨p, q, hA0, hV0, rfl, hfz, hnd⟩ := hW
  have hV : DataW.TrodVars enc Tryd.prog W (fun _ => true) [] gs q := hV0
  have hA : DataW.TrodAll enc Tryd.prog W 0 (fun _ => true) true Tryd.f4.params.toList args.toList ds p := hA0
  rw [Tryd.params4] at hA hval hsz
  obtain ⟨v0, vs0, d0, ds0, p0, q0, hargs, rfl, rfl, h0, rr0⟩ := trodAll_cons hA
  obtain ⟨v1, vs1, d1, ds1, p1, q1, rfl, rfl, rfl, h1, rr1⟩ := trodAll_cons rr0
  obtain ⟨v2, vs2, d2, ds2, p2, q2, rfl, rfl, rfl, h2, rr2⟩ := trodAll_cons rr1
  obtain ⟨rfl, rfl, rfl⟩ := trodAll_nil rr2
  obtain rfl : args = #[v0, v1, v2] := by cases args; simp_all
  obtain ⟨rfl, rfl⟩ := trodVars_none hV
  have k0 := h0
  have lt0 : ∀ x ∈ p0, x.block < W.heap.size := by obtain ⟨m, hm⟩ := k0; exact DataW.trod_lt m _ _ _ hm
  have k1 := h1
  have lt1 : ∀ x ∈ p1, x.block < W.heap.size := by obtain ⟨m, hm⟩ := k1; exact DataW.trod_lt m _ _ _ hm
  have k2 := h2
  have lt2 : ∀ x ∈ p2, x.block < W.heap.size := by obtain ⟨m, hm⟩ := k2; exact DataW.trod_lt m _ _ _ hm
  obtain ⟨a0, rfl, rfl, rfl, w0⟩ := open_int Tryd.underlying3 (hval 0 3 v0 rfl rfl) h0
  obtain ⟨l0, hh0⟩ := bounds_i64 w0
  obtain ⟨A1, c1, z1, rfl, m1, n1, x1, r1⟩ : ∃ (A : Option Addr) (c : Nat) (l : List Fm.Nd), v1 = .slice A l.length c ∧ l.length ≤ c ∧ c ≤ 9223372036854775807 ∧ Fm.NodesAt W W.heap.size A l ∧ l.length ≤ 5864062014634 := by
    obtain ⟨A, len, c, rfl⟩ := okWide_slice Tryd.underlying22 (hval 1 22 v1 rfl rfl)
    obtain ⟨fuel, hf⟩ := h1
    obtain ⟨A2, c2, l, hcs, q1, q2, q3, q4⟩ := Fm.open_nodes hf
    simp [Value.cells] at hcs
    obtain ⟨rfl, rfl, rfl⟩ := hcs
    refine ⟨_, _, l, rfl, q1, q2, q3, ?_⟩
    rcases q4 with q4 | ⟨es, sp, hd, hl⟩
    · omega
    · have := sized_slice hsz (j := 1) (t := 22) (e := 29) (elems := es) (spare := sp) rfl (by rw [← hd]; rfl) Tryd.underlying22
      rw [(show Tryd.prog.bytesOf 29 = 24 by kernel_rfl)] at this
      simp only [reachBytes] at this
      omega
  obtain ⟨A2, len2, c2, rfl⟩ := okWide_slice Tryd.underlying23 (hval 2 23 v2 rfl rfl)
  obtain ⟨z2, rfl, x2, r2, m2⟩ : ∃ zs : List Int, len2 = zs.length ∧ IntsAt W W.heap.size A2 zs ∧ zs.length ≤ 17592186043904 ∧ zs.length ≤ c2 := by
    obtain ⟨fuel, hf⟩ := h2
    rcases open_ints Tryd.underlying23 Tryd.underlying3 (by kernel_rfl) hf with ⟨hcs, _⟩ | ⟨x, l, c, zs, hcs, _, hl, hm, hz, hx, hcell, hwz⟩
    · simp [Value.cells] at hcs
      obtain ⟨rfl, rfl, rfl⟩ := hcs
      exact ⟨[], rfl, IntsAt.nil _ _ _, by simp, by simp⟩
    · simp [Value.cells] at hcs
      obtain ⟨rfl, rfl, rfl⟩ := hcs
      have hd := congrArg Prod.fst hx
      simp only at hd
      have := sized_slice hsz (j := 2) (t := 23) (e := 3) rfl (by rw [hd]; rfl) Tryd.underlying23
      rw [(show Tryd.prog.bytesOf 3 = 8 by kernel_rfl)] at this
      simp only [reachBytes, lits, List.length_map, List.length_take, List.length_drop] at this
      have hz' : zs.length = c2 := by simpa using hz
      exact ⟨zs.take len2, by rw [List.length_take]; omega, intsAt_of_open hcell hwz len2, by rw [List.length_take]; omega, by rw [List.length_take]; omega⟩
  clear hA0 hval0
  refine (walk a0 A1 c1 z1 A2 c2 z2 W l0 hh0 x1 m1 n1 r1 x2 r2 m2 (handle_of_laid hL)).mono fun e W' ⟨he, bel⟩ => ?_
  subst he
  exact ⟨_, rfl, _, _, _, [], _, [], hW', trodAll_mk1 (shut_bool Tryd.underlying4 _), (trodAll_cons_mk (Below.trod laidOut (by kernel_rfl) (of_decide_eq_true (by kernel_rfl)) k0 bel lt0) (trodAll_cons_mk (Below.trod laidOut (by kernel_rfl) (of_decide_eq_true (by kernel_rfl)) k1 bel lt1) (trodAll_cons_mk (Below.trod laidOut (by kernel_rfl) (of_decide_eq_true (by kernel_rfl)) k2 bel lt2) trodAll_mk0))), rfl, bel.frame _, fun h => by cases h⟩

theorem over : Rows.meanSaysRow.holds Tryd.pinned (OpenSpec.ofChange Rows.meanSaysSpec) :=
  OpenClaim.holds_of_wide 4 Tryd.f4 rfl rfl rfl rfl rfl rfl rfl ⟨rfl, rfl, rfl, rfl, rfl⟩ rfl rfl rfl rfl rfl (by kernel_rfl) Tryd.func4 (by kernel_rfl)
    (of_decide_eq_true (by kernel_rfl)) (by unfold Func.isWrapper; rw [if_neg (of_decide_eq_false (by kernel_rfl))]; exact ⟨rfl, rfl⟩)
    (fun os started H enc _ => lifted os started H enc)
theorem proved : Rows.MeanSaysCardSaid :=
  Claim7.holds_tied_plain_at .later [] [.handle] true (true, "9e209e03e2101e425315f778f1ed901e182aeb03f23aa0e81980e2b727e93541") true
    over (fun _ h => by cases h) (by kernel_rfl) (fun _ h => by cases h) meanSays_row_tie rfl ⟨rfl, rfl⟩ (by kernel_rfl) rfl
    (fun f fn hf hfn => by
      obtain rfl : f = 4 := Option.some.inj ((show Tryd.prog.funcNamed "stileward/stilewardlaw3.MeanSays" = some 4 by kernel_rfl).symm.trans hf) |>.symm
      obtain rfl : fn = Tryd.f4 := (Option.some.inj (Tryd.func4.symm.trans hfn)).symm
      exact ⟨by kernel_rfl, fun j t ht => by
        rw [Tryd.params4] at ht
        rcases j with _ | _ | _ | j
        · obtain rfl : 3 = t := by simpa using ht
          exact (show Tryd.prog.wantsStandIn 3 = false by kernel_rfl)
        · obtain rfl : 22 = t := by simpa using ht
          exact (show Tryd.prog.wantsStandIn 22 = false by kernel_rfl)
        · obtain rfl : 23 = t := by simpa using ht
          exact (show Tryd.prog.wantsStandIn 23 = false by kernel_rfl)
        · simp at ht⟩)
    (by kernel_rfl)
#print axioms proved
end Go.Proofs.YtaelgnmklepebaaDoor.meanSays
