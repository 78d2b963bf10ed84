/-
  The statement TopPastCardSaid of this seat, proved: for every input the law returns true and its arguments read behind the call as before. Conditions: none but the row's own (each argument within the reach; the listed variable as the program lays it, tied by the given tie).
-/
import Derived.Test.YtciopfiddfmckaaDoorRows
import Derived.Test.YtciopfiddfmckaaDoorCards
import Derived.Test.YtciopfiddfmckaaDoorTie
import Derived.SevenTiedAt
import Derived.LaidLaws
import Derived.LaidHandle
import Derived.LaidMore
import Derived.Lay
import Derived.MakeChecks
import Derived.Stop.Joined
import Derived.JoinedOf
import Derived.RowKit
import Derived.RowKitTokens
import Derived.ChangeSame
import Derived.ChangeVars
import Derived.Test.YtciopfiddfmckaaDoorWords
import Derived.WalkKit
import Derived.ProofKit
import Derived.OpenShut
import Derived.ShutString
import Derived.ChangeOld
import Derived.Below
import Derived.SizedLaws
import Derived.Lib.Hide
import Derived.Test.YtciopfiddfmckaaDoorPastW
import Derived.Test.YtciopfiddfmckaaDoorBackQ
import Derived.Test.YtciopfiddfmckaaDoorSafeL
import Derived.Test.YtciopfiddfmckaaDoorGateL
import Derived.Test.YtciopfiddfmckaaDoorSafeM
import Derived.Test.YtciopfiddfmckaaDoorSays
import Derived.Test.YtciopfiddfmckaaDoorDfaV
namespace Go.Proofs.YtciopfiddfmckaaDoor.topPast
open Go.ChangeShapes Go.WideShapes Go.ChangeAt Go.RowKit Go.IntWalk Go.Proofs.YtciopfiddfmckaaDoor.Wd
open Go.ChangeMaps (open_string shut_string)
set_option linter.unusedVariables false

theorem own : ownKnob Tryd.prog.godebug = none := by kernel_rfl
theorem laidOut : laidOutB Tryd.prog = true := by kernel_rfl
theorem et : Tryd.prog.globalNamed "errors.errorType" = some 0 := by kernel_rfl
theorem rt : (Tryd.prog.cutTypes.find? (·.1 == "internal/reflectlite.rtype")).map (·.2) = some 137 := by kernel_rfl
theorem oneRow : ((List.range 180).filter fun t => Tryd.prog.rowNamed t [101, 114, 114, 111, 114]) = [30] := by kernel_rfl
theorem size : Tryd.prog.types.size = 180 := by kernel_rfl
/-- What the condition gives a walk: the variable's one cell. -/
theorem handle_of_laid {w : World} (h : laidMetH Tryd.prog [("errors.errorType", Rows.laid_errors_errorType)] w) : w.cell? ⟨0, 0, none⟩ = some (.iface 137 (.agg #[.pointer (some ⟨1, 30, none⟩)])) := by
  have h' : laidMet Tryd.prog [] w ∧ handlesMet Tryd.prog [("errors.errorType", Rows.laid_errors_errorType)] w := h
  obtain ⟨name, u, ty, e1, e2, e3, e4, e5⟩ := h'.2 _ (List.mem_singleton.2 rfl)
  have en : name = [101, 114, 114, 111, 114] := (Option.some.inj e1).symm
  subst en
  obtain rfl := Option.some.inj (rt.symm.trans e2)
  have hm : ty ∈ (List.range 180).filter fun t => Tryd.prog.rowNamed t [101, 114, 114, 111, 114] := List.mem_filter.2 ⟨List.mem_range.2 (by rw [← size]; exact e3), e4⟩
  rw [oneRow] at hm
  obtain rfl := List.mem_singleton.1 hm
  have hh : typeHandle Tryd.prog 30 = .pointer (some ⟨1, 30, none⟩) := by kernel_rfl
  rw [hh] at e5
  simpa using World.var?_cell et e5 0
/-- A world that meets the condition. -/
noncomputable def laidWorld (os : Os) : World :=
  let w0 := World.holding Tryd.prog os ⟨#[], #[], []⟩
  { w0 with heap := w0.heap.modify 0 fun
      | .cells _ t frozen => .cells #[.iface 137 (.agg #[.pointer (some ⟨1, 30, none⟩)])] t frozen
      | o => o }
theorem laidWorld_met (os : Os) (args : Array Value) : laidMetH Tryd.prog [("errors.errorType", Rows.laid_errors_errorType)] ((laidWorld os).forCall (fun _ _ => 0) ⟨#[], args, []⟩).memory :=
  laidMetH_of_parts (laidMet_nil _ _) (by kernel_rfl)
open Go.Proofs.YtciopfiddfmckaaDoor.Wo Go.Proofs.YtciopfiddfmckaaDoor.Er Go.Proofs.YtciopfiddfmckaaDoor.Df Go.Proofs.YtciopfiddfmckaaDoor.Sa Go.Proofs.YtciopfiddfmckaaDoor.Ga Go.Proofs.YtciopfiddfmckaaDoor.Fm
def pfactF : List Nd := [(2, 2, 0), (10, 0, 0)]
theorem pfact_good : FGood 2 (mrF pfactF) := fchk_iff.1 (by decide)
theorem pfact_yes : fval (mrF pfactF) [1, 0].reverse = true := by decide
theorem pfact_small : ∀ m ∈ pfactF, NdSmall m := by intro m hm; simp [pfactF] at hm; rcases hm with rfl | rfl <;> (unfold NdSmall Sml; decide)
def pfactW (w : World) : World := (w.alloc (.cells #[.int .i64 2, .int .i64 2, .int .i64 0, .int .i64 10, .int .i64 0, .int .i64 0] 51)).alloc (.cells #[.int .i64 1, .int .i64 0] 3)
theorem pfact_holds (w : World) :
    Calls Tryd.prog 21 #[.int .i64 2, .slice (some ⟨w.heap.size, 0, none⟩) 2 2, .slice (some ⟨w.heap.size + 1, 0, none⟩) 2 2] (pfactW w) fun e w' => e = .returned (.tuple #[.bool true, .nilIface]) ∧ Below w.heap.size w w' := by
  have hB : Below w.heap.size w (pfactW w) := (bel_alloc _ _).alloc (by simp) _
  have h1 := lit_nodes w pfactF 51 pfact_small #[.int .i64 2, .int .i64 2, .int .i64 0, .int .i64 10, .int .i64 0, .int .i64 0] rfl
  have h2 := lit_ints (w.alloc (.cells #[.int .i64 2, .int .i64 2, .int .i64 0, .int .i64 10, .int .i64 0, .int .i64 0] 51)) [1, 0] 3 (fun x hx => by simp at hx; unfold Small; omega) #[.int .i64 1, .int .i64 0] rfl
  have h3 := h1.on (bel_alloc _ (.cells #[.int .i64 1, .int .i64 0] 3))
  have hs : (w.alloc (.cells #[.int .i64 2, .int .i64 2, .int .i64 0, .int .i64 10, .int .i64 0, .int .i64 0] 51)).heap.size = w.heap.size + 1 := by simp
  rw [hs] at h2
  refine (pholds_yes (L := 2) (f := pfactF) (z := [1, 0]) ⟨by decide, by decide⟩ rfl rfl pfact_good ⟨by decide, by simp, fun x hx => by simp at hx; omega⟩ _ 2 (by decide) _ 2 _ h3 h2).mono fun e w' ⟨h4, h5⟩ => ⟨by rw [h4, pfact_yes], ?_⟩
  exact hB.trans (h5.mono hB.size)
theorem vec_last {f : List Nd} (z : List Int) {n : Nat} (hn : f.length = n + 1) : (vec f z)[n]? = some (fval f z) := by
  have := vec_at f z (k := n) (by omega)
  rw [this]; unfold fval; rw [hn]; rfl
theorem vec_feed {L : Int} {f : List Nd} (g : FGood L (mrF f)) {z : List Int} {i : Nat} (h : i < z.length) : nxt (mrF f) (vec (mrF f) (z.take i).reverse) z[i] = vec (mrF f) (z.take (i + 1)).reverse := by
  rw [vec_next g.nd, take_rev h, List.getD_eq_getElem?_getD, List.getElem?_eq_getElem h]; rfl
theorem says_gives {w : World} (hg : w.cell? ⟨0, 0, none⟩ = some (.iface 137 (.agg #[.pointer (some ⟨1, 30, none⟩)]))) (e : Nat) {E : Value} {K : Int} (hE : errV e = E) (hK : (e : Int) = K) (W : World) (hb : Below w.heap.size w W) :
    Calls Tryd.prog 14 #[E, .int .i64 K] W fun r w' => r = .returned (.bool true) ∧ Below W.heap.size W w' := by
  subst hE
  subst hK
  exact says e hg W hb
section
variable {w0 w w' : World} {g : Nat} {d : Aut} {G : Gt} {es fs : List Ent}
theorem gateW_weak {fs' : List Ent} (h : GateW w0 w g d G es fs) (p : ∀ e ∈ fs', e ∈ fs) : GateW w0 w g d G es fs' := by
  obtain ⟨nv, fv, pv, rs, h⟩ := h
  exact ⟨nv, fv, pv, rs, h.next, h.small, h.sL, h.ss, h.nil0, h.own.weak fun e he => by
    simp only [List.mem_cons, List.mem_append] at he ⊢
    rcases he with he | he | he | he
    · exact .inl he
    · exact .inr (.inl he)
    · exact .inr (.inr (.inl he))
    · exact .inr (.inr (.inr (p e he)))⟩
theorem gateW_onto {es0 fs0 : List Ent} (h0 : Own w0 w es0 fs0) (h : GateW w w' g d G es fs) : GateW w0 w' g d G (es ++ es0) (fs ++ fs0) := by
  obtain ⟨nv, fv, pv, rs, h⟩ := h
  have h1 := h0.join h.own
  refine ⟨nv, fv, pv, rs, h.next, h.small, h.sL, h.ss, h.nil0, ?_⟩
  rw [← List.append_assoc]
  exact h1
theorem gateW_bools {x : Value} {l : List Bool} (h : GateW w0 w g d G es fs) (hm : eBools x l ∈ fs) : ∃ A cap, x = .slice A l.length cap ∧ Df.BoolsAt w w.heap.size A l := by
  obtain ⟨nv, fv, pv, rs, h⟩ := h
  obtain ⟨A, cap, e, _, _, h2⟩ := own_bools h.own (fv := x) (bs := l) (List.mem_append_right _ (List.mem_cons_of_mem _ (List.mem_cons_of_mem _ (List.mem_append_right _ hm))))
  exact ⟨A, cap, e, h2⟩
end
/-- The list of flags that is kept beside a gate. -/
def Flg (w0 wr : World) (g : Nat) (AL : Aut) (G : Gt) (v : Value) (k : Nat) (T : List Bool) : Prop :=
  ∃ g', v = .slice (some ⟨g', 0, none⟩) (k + 1) (k + 1) ∧ GateW w0 wr g AL G [] [eBools v T]
theorem Flg.cell {w0 wr : World} {g k : Nat} {AL : Aut} {G : Gt} {v : Value} {T : List Bool} {b : Bool} (h : Flg w0 wr g AL G v k T) (hl : T.length = k + 1) (hb : T[k]? = some b) : ∃ g', v = .slice (some ⟨g', 0, none⟩) (k + 1) (k + 1) ∧ Df.BoolsAt wr wr.heap.size (some ⟨g', 0, none⟩) T ∧ wr.cell? ⟨g', k, none⟩ = some (.bool b) := by
  obtain ⟨g', rfl, hG⟩ := h
  obtain ⟨A, cap, e, hB⟩ := gateW_bools hG List.mem_cons_self
  obtain ⟨rfl, _⟩ : some ⟨g', 0, none⟩ = A ∧ _ := by
    simp only [Value.slice.injEq] at e
    exact ⟨e.1, e.2⟩
  obtain ⟨ad, e4, _, hc, _⟩ := hB.at_ hb
  simp only [Option.some.injEq] at e4
  subst e4
  have e5 : ((⟨g', 0, none⟩ : Addr).add k) = ⟨g', k, none⟩ := by simp [Addr.add]; intro h; exact h.symm
  rw [e5] at hc
  exact ⟨g', rfl, hB, hc⟩
theorem bools_cell {W : World} {g' k : Nat} {T : List Bool} {b : Bool} (hB : Df.BoolsAt W W.heap.size (some ⟨g', 0, none⟩) T) (hb : T[k]? = some b) : W.cell? ⟨g', k, none⟩ = some (.bool b) := by
  obtain ⟨ad, e4, _, hc, _⟩ := hB.at_ hb
  simp only [Option.some.injEq] at e4
  subst e4
  have e5 : ((⟨g', 0, none⟩ : Addr).add k) = ⟨g', k, none⟩ := by simp [Addr.add]; intro h; exact h.symm
  rwa [e5] at hc
theorem own_bools_is {W0 W : World} {g' n : Nat} {T : List Bool} (h : Own W0 W [eBools (.slice (some ⟨g', 0, none⟩) n n) T] []) : Df.BoolsAt W W.heap.size (some ⟨g', 0, none⟩) T := by
  obtain ⟨A5, c5, hv5, _, _, hB5⟩ := own_bools h (fv := .slice (some ⟨g', 0, none⟩) n n) (bs := T) (by simp)
  simp only [Value.slice.injEq] at hv5
  rw [← hv5.1] at hB5
  exact hB5

set_option maxRecDepth 100000 in
set_option maxHeartbeats 4000000 in
theorem walk (a0 : Int) (A1 : Option Addr) (c1 : Nat) (z1 : List Fm.Nd) (A2 : Option Addr) (c2 : Nat) (z2 : List Int) (w : World) (l0 : -9223372036854775808 ≤ a0) (h0 : a0 ≤ 9223372036854775807) (v1 : Fm.NodesAt w w.heap.size A1 z1) (m1 : z1.length ≤ c1) (n1 : c1 ≤ 9223372036854775807) (r1 : z1.length ≤ 5864062014634) (v2 : IntsAt w w.heap.size A2 z2) (r2 : z2.length ≤ 17592186043904) (m2 : z2.length ≤ c2) (hg : w.cell? ⟨0, 0, none⟩ = some (.iface 137 (.agg #[.pointer (some ⟨1, 30, none⟩)]))) :
    Calls Tryd.prog 5 #[.int .i64 a0, .slice A1 z1.length c1, .slice A2 z2.length c2] w fun e w' => e = .returned (.bool true) ∧ Below w.heap.size w w' := by
  have hL : Small a0 := ⟨l0, h0⟩
  have HK := Lib.hid pfact_holds
  unfold pfactW at HK
  have hz2 : z2.length ≤ 17592186044416 := by omega
  have hf63 : z1.length ≤ 9223372036854775807 := by omega
  have HA := Lib.hid (fun wr (h : Below w.heap.size w wr) => v1.on h)
  have HZ := Lib.hid (fun wr (h : Below w.heap.size w wr) => v2.on h)
  obtain ⟨n, hn⟩ : ∃ n, z1.length = n := ⟨_, rfl⟩
  obtain ⟨M, hM⟩ : ∃ M, z2.length = M := ⟨_, rfl⟩
  have hc1 : n ≤ c1 := by omega
  by_cases hf : fchk a0 (mrF z1) = 0
  · have g := fchk_iff.1 hf
    have HMi := Lib.hid (fun W hA => pmir_yes hL hn g A1 c1 hc1 W hA)
    have hml : (mrF z1).length = n := by rw [mrF_length, hn]
    have hm63 : (mrF z1).length ≤ 9223372036854775807 := by omega
    rcases bk_cases a0 (mrF z1) with ⟨l, _, hl, hr⟩ | ⟨kk, hr, hkk⟩
    · have gd : Df.Good (backA a0 (mrF z1) l) := back_good g hl
      have hacc : ∀ u : List Int, Df.Word a0 u → accA (backA a0 (mrF z1) l) u = fval (mrF z1) u.reverse := fun u hu => back_acc g hl (w := u) hu
      have eL : (backA a0 (mrF z1) l).L = a0 := rfl
      have HBk := Lib.hid (fun W A c (hA : NodesAt W W.heap.size A (mrF z1)) => back_gives (E := .nilIface) (c := c) hL hA hm63 hr rfl)
      rw [hml] at HBk
      generalize backA a0 (mrF z1) l = d at *
      have HAl := Lib.hid (fun W v (h : DfaAt W W.heap.size v d) => always_gives (E := .nilIface) h (mkO_ok gd) rfl)
      have HSt := Lib.hid (fun W hA => pstart_yes hL hn g A1 c1 hc1 W hA)
      obtain ⟨k, rfl⟩ : ∃ k, n = k + 1 := ⟨n - 1, by have := g.ne; rw [mrF_length] at this; omega⟩
      have hk40 : k ≤ 39 := by have := g.le; rw [mrF_length] at this; omega
      have hk1 : ((((k + 1 : Nat) : Int)) != (((k + 1 : Nat) : Int))) = false := bne_self_eq_false _
      have hk2 : ((k : Int) + 1 == 0) = false := beq_eq_false_iff_ne.2 (by omega)
      have hvl := vec_last (f := mrF z1) [] hml
      have h00 : fval (mrF z1) [] = accA d [] := (hacc [] (fun c hc => by simp at hc)).symm
      rw [h00] at hvl
      have HHL := Lib.hid hL
      have HHN := Lib.hid hn
      have HHG := Lib.hid g
      rcases he : accA d [] with _ | _
      · have HNw := Lib.hid (fun W v (h : DfaAt W W.heap.size v (stopA false d)) => gnew_gives (E := .iface 67 (.int .i64 8)) h (no_gate gd he) rfl)
        rw [he] at hvl
        have HVl := Lib.hid hvl
        rw [hn, hM]
        generalize stopA false d = AL at *
        clear hr hl hf hml hm63 hacc gd hvl h00 he eL g hL hn hM v1 v2 hf63 hz2
        go_enter Tryd.func5, Tryd.ntmps5
        go_wp2_with fail
        refine (HK.out _).mono ?_
        rintro e b1 ⟨rfl, hb⟩
        have B := Lib.hid hb
        clear hb  HK
        go_wp2_with fail
        refine (HMi.out _ (HA.out _ B.out)).mono ?_
        rintro e b2 ⟨he, hb⟩
        obtain ⟨A5, c5, rfl, h5, h6, N5⟩ := he.out
        have N5 := N5
        have B := Lib.hid (B.out.trans (hb.mono B.out.size))
        clear hb he HMi
        go_wp2_with fail
        refine (HBk.out _ _ _ N5.out).mono ?_
        rintro e b3 ⟨L13, s13, A13, n13, c13, F13, m13, k13, rfl, hd, hb⟩
        have N5 := Lib.hid (N5.out.on hb)
        have B := Lib.hid (B.out.trans (hb.mono B.out.size))
        clear hb  HBk
        obtain ⟨x3, hx3, hbn, Vn⟩ := var_new b3 hd.out
        have VA := Lib.hid Vn
        have N5 := Lib.hid (N5.out.on hbn)
        have B := Lib.hid (B.out.trans (hbn.mono B.out.size))
        clear hbn Vn hd
        clear N5
        obtain ⟨p0, p1, p2, p3, p4⟩ := VA.out.box
        rw [hx3] at p1 p2 p3 p4
        have HX := Lib.hid hx3
        clear hx3
        go_wp2_with fail
        rw [← HX.out]
        clear HX
        refine (HAl.out _ _ VA.out.at_).mono ?_
        rintro e b4 ⟨L14, s14, A14, n14, c14, F14, m14, k14, rfl, hd, hb⟩
        have VA := Lib.hid (VA.out.on hb)
        have B := Lib.hid (B.out.trans (hb.mono B.out.size))
        clear hb p0 p1 p2 p3 p4 HAl
        obtain ⟨x4, hx4, hbn, Vn⟩ := var_new b4 hd.out
        have VL := Lib.hid Vn
        have VA := Lib.hid (VA.out.on hbn)
        have B := Lib.hid (B.out.trans (hbn.mono B.out.size))
        clear hbn Vn hd
        clear VA
        have HX := Lib.hid hx4
        clear hx4
        go_wp2_with fail
        rw [← HX.out]
        clear HX
        refine (HSt.out _ (HA.out _ B.out)).mono ?_
        rintro e b5 he5
        obtain ⟨g0, rfl, ho⟩ := he5.out
        have HOv := Lib.hid ho
        have hb := ho.below
        have BV := Lib.hid (own_bools_is ho)
        have VL := Lib.hid (VL.out.on hb)
        have B := Lib.hid (B.out.trans (hb.mono B.out.size))
        clear hb ho he5 HSt
        obtain ⟨p0, p1, p2, p3, p4⟩ := VL.out.box
        go_wp2_with fail
        refine (HNw.out _ _ VL.out.at_).mono ?_
        rintro e b6 ⟨pn, rfl, hb⟩
        have BV := Lib.hid (BV.out.on hb)
        have VL := Lib.hid (VL.out.on hb)
        have B := Lib.hid (B.out.trans (hb.mono B.out.size))
        clear hb p0 p1 p2 p3 p4 HNw
        have hcv := bools_cell BV.out HVl.out
        have HEr := Lib.hid (says_gives hg 8 (E := .iface 67 (.int .i64 8)) (K := 8) rfl rfl b6 B.out)
        go_wp2_with fail
        refine (HEr.out).mono ?_
        rintro e b7 ⟨rfl, hb⟩
        have BV := Lib.hid (BV.out.on hb)
        have VL := Lib.hid (VL.out.on hb)
        have B := Lib.hid (B.out.trans (hb.mono B.out.size))
        clear hb  HEr
        go_wp2
        go_ret
        exact ⟨rfl, B.out⟩
      · have gg := gate_always gd he
        have HNw := Lib.hid (fun W v (h : DfaAt W W.heap.size v (stopA false d)) => gnew_ok v (stopA false d) W h gg)
        have HGA := Lib.hid gg
        rw [he] at hvl
        have HVl := Lib.hid hvl
        have HM := Lib.hid hM
        have HML := Lib.hid hml
        have HAcc := Lib.hid hacc
        have HOA := Lib.hid (fun (u : List Int) (a : Int) (hu : Word a0 (u ++ [a])) (hl : u.length < 80) => offer_always gd he (w := u) (a := a) (by rw [eL]; exact hu) hl)
        have HEL : Hid ((stopA false d).L = a0) := eL
        have HA0 : Hid (allB d (z2.take 0) (0 + 1) = true) := by show allB d [] 1 = true; rw [allB_succ]; simp [allB]; exact he
        rw [hn, hM]
        generalize stopA false d = AL at *
        clear hr hl hf hml hm63 hacc gd hvl h00 he eL g hL hn hM v1 v2 hf63 hz2 gg
        go_enter Tryd.func5, Tryd.ntmps5
        go_wp2_with fail
        refine (HK.out _).mono ?_
        rintro e b1 ⟨rfl, hb⟩
        have B := Lib.hid hb
        clear hb  HK
        go_wp2_with fail
        refine (HMi.out _ (HA.out _ B.out)).mono ?_
        rintro e b2 ⟨he, hb⟩
        obtain ⟨A5, c5, rfl, h5, h6, N5⟩ := he.out
        have N5 := N5
        have B := Lib.hid (B.out.trans (hb.mono B.out.size))
        clear hb he HMi
        go_wp2_with fail
        refine (HBk.out _ _ _ N5.out).mono ?_
        rintro e b3 ⟨L13, s13, A13, n13, c13, F13, m13, k13, rfl, hd, hb⟩
        have N5 := Lib.hid (N5.out.on hb)
        have B := Lib.hid (B.out.trans (hb.mono B.out.size))
        clear hb  HBk
        obtain ⟨x3, hx3, hbn, Vn⟩ := var_new b3 hd.out
        have VA := Lib.hid Vn
        have N5 := Lib.hid (N5.out.on hbn)
        have B := Lib.hid (B.out.trans (hbn.mono B.out.size))
        clear hbn Vn hd
        clear N5
        obtain ⟨p0, p1, p2, p3, p4⟩ := VA.out.box
        rw [hx3] at p1 p2 p3 p4
        have HX := Lib.hid hx3
        clear hx3
        go_wp2_with fail
        rw [← HX.out]
        clear HX
        refine (HAl.out _ _ VA.out.at_).mono ?_
        rintro e b4 ⟨L14, s14, A14, n14, c14, F14, m14, k14, rfl, hd, hb⟩
        have VA := Lib.hid (VA.out.on hb)
        have B := Lib.hid (B.out.trans (hb.mono B.out.size))
        clear hb p0 p1 p2 p3 p4 HAl
        obtain ⟨x4, hx4, hbn, Vn⟩ := var_new b4 hd.out
        have VL := Lib.hid Vn
        have VA := Lib.hid (VA.out.on hbn)
        have B := Lib.hid (B.out.trans (hbn.mono B.out.size))
        clear hbn Vn hd
        clear VA
        have HX := Lib.hid hx4
        clear hx4
        go_wp2_with fail
        rw [← HX.out]
        clear HX
        have B0 := B
        refine (HSt.out _ (HA.out _ B.out)).mono ?_
        rintro e b5 he5
        obtain ⟨g0, rfl, ho⟩ := he5.out
        have HOv := Lib.hid ho
        have hb := ho.below
        have BV := Lib.hid (own_bools_is ho)
        have VL := Lib.hid (VL.out.on hb)
        have B := Lib.hid (B.out.trans (hb.mono B.out.size))
        clear hb ho he5 HSt
        obtain ⟨p0, p1, p2, p3, p4⟩ := VL.out.box
        go_wp2_with fail
        refine (HNw.out _ _ VL.out.at_).mono ?_
        rintro e b6 he5
        obtain ⟨gt, rfl, hG⟩ := he5.out
        have HS : Hid (Flg x4 b6 gt AL (offers AL (gate0 AL) (z2.take 0)) (.slice (some ⟨g0, 0, none⟩) (k + 1) (k + 1)) k (vec (mrF z1) (z2.take 0).reverse)) := ⟨g0, rfl, gateW_onto HOv.out.fin hG⟩
        have hb := hG.below
        have BV := Lib.hid (BV.out.on hb)
        have hcv := bools_cell BV.out HVl.out
        skip
        clear he5 hG HNw hb p0 p1 p2 p3 p4
        skip
        go_wp2
        go_loopw [15, 19, 20] (fun v op s wr => ∃ i : Nat, i ≤ M ∧ i ≤ 80 ∧ s = .int .i64 i ∧ op = .bool (allB d (z2.take i) (i + 1)) ∧ Hid (Word a0 (z2.take i)) ∧ Hid (Flg x4 wr gt AL (offers AL (gate0 AL) (z2.take i)) v k (vec (mrF z1) (z2.take i).reverse))) (fun _ _ s _ => 80 - (intOf s).toNat)
        case atStart => exact ⟨0, by omega, by omega, rfl, by rw [HA0.out], fun c hc => by simp at hc, HS⟩
        case round =>
          clear HS hcv
          obtain ⟨i, hi, hi8, rfl, rfl, HWd, HS⟩ := hrel
          have HFl := Lib.hid (HS.out)
          obtain ⟨g1, rfl, hGw⟩ := HS.out
          have HGw := Lib.hid hGw
          have HBw := Lib.hid (B0.out.trans (hGw.below.mono B0.out.size))
          clear hGw HS
          by_cases hlt : i < M
          · by_cases h80 : i < 80
            · have hiz : i < z2.length := by rw [HM.out]; exact hlt
              obtain ⟨adz, rfl, hab, hac, _, _⟩ := (HZ.out _ HBw.out).at_ i hiz
              have hsa : Small z2[i] := (HZ.out _ HBw.out).2 _ (List.getElem_mem hiz)
              have hok := gok_offers (gok_start HGA.out) (z2.take i)
              have hil : (z2.take i).length = i := by rw [List.length_take]; omega
              have e1 : (i : Int) < (M : Int) := by omega
              have e2 : (i : Int) < 80 := by omega
              have HOf := Lib.hid (offer_any x4 wr gt AL _ [] _ z2[i] HGw.out HGA.out.good hok hsa)
              have HTk : Hid (z2.take (i + 1) = z2.take i ++ [z2[i]]) := (List.take_append_getElem hiz).symm
              have HOt : Hid (offers AL (gate0 AL) (z2.take (i + 1)) = (offer AL (offers AL (gate0 AL) (z2.take i)) z2[i]).2.2) := offers_take AL (gate0 AL) z2 hiz
              have HVf := Lib.hid (vec_feed HHG.out hiz)
              clear hab hok
              by_cases hin : 0 ≤ z2[i] ∧ z2[i] < a0
              · have hw2 : Word a0 (z2.take i ++ [z2[i]]) := word_one HWd.out hin.1 hin.2
                obtain ⟨ho1, ho2, ho3⟩ := HOA.out (z2.take i) z2[i] hw2 (by omega)
                rw [hil] at ho2 ho3
                rw [ho1, ho2] at HOf
                have hlast : vec (mrF z1) (z2.take (i + 1)).reverse = vec (mrF z1) (z2.take (i + 1)).reverse := rfl
                have hv2 := vec_last (f := mrF z1) (z2.take (i + 1)).reverse HML.out
                rw [← HAcc.out _ (by rw [HTk.out]; exact hw2), HTk.out] at hv2
                rw [← HTk.out] at hv2
                have HV2 := Lib.hid hv2
                have hall : allB d (z2.take (i + 1)) (i + 1 + 1) = (allB d (z2.take i) (i + 1) && accA d (z2.take i ++ [z2[i]])) := by
                  have h := allB_last (d := d) (z2.take i) z2[i]
                  rw [hil, ← HTk.out] at h
                  rw [h, HTk.out]
                have HAll := Lib.hid hall
                have HW2 : Hid (Word a0 (z2.take (i + 1))) := by unfold Hid; rw [HTk.out]; exact hw2
                have hsh : (offers AL (gate0 AL) (z2.take (i + 1))).shut = !(allB d (z2.take i) (i + 1) && accA d (z2.take i ++ [z2[i]])) := by rw [HOt.out]; exact ho3
                have HSh := Lib.hid (fun W v T (h : GateW x4 W gt AL (offers AL (gate0 AL) (z2.take (i + 1))) [] [eBools v T]) => shut_any _ _ _ _ _ _ _ h)
                rw [hsh] at HSh
                rw [← HOt.out] at HOf
                skip
                have HIn := Lib.hid hin
                clear hw2 ho1 ho2 ho3 hlast hv2 hall hsh hin HTk HOt hil
                generalize allB d (z2.take i) (i + 1) = b1 at *
                have hb2 : ∃ b2, accA d (z2.take i ++ [z2[i]]) = b2 := ⟨_, rfl⟩
                obtain ⟨b2, hb2⟩ := hb2
                rw [hb2] at HOf HSh HAll
                have HV2 : Hid ((vec (mrF z1) (z2.take (i + 1)).reverse)[k]? = some b2) := by have := HV2.out; rw [(List.take_append_getElem hiz).symm, hb2] at this; rw [(List.take_append_getElem hiz).symm]; exact this
                clear hb2
                have HGT := Lib.hid (List.getElem?_eq_getElem hiz)
                have HFd := Lib.hid (fun B W hA hB => pfeed_yes HHL.out HHN.out HHG.out (T := vec (mrF z1) (z2.take i).reverse) (by rw [vec_length, mrF_length]; exact HHN.out) HIn.out.1 HIn.out.2 A1 c1 hc1 B (k + 1) W hA hB)
                rw [HVf.out] at HFd
                have t1 : decide (z2[i] < 0) = false := decide_eq_false (by have := HIn.out.1; omega)
                have t2 : decide (a0 ≤ z2[i]) = false := decide_eq_false (by have := HIn.out.2; omega)
                have t3 := HIn.out.1
                have t4 := HIn.out.2
                clear HVf HIn hsa
                generalize z2[i] = a at *
                clear hiz
                go_wp2_with fail
                refine HOf.out.mono ?_
                rintro e x5 ⟨he, HGx⟩
                obtain rfl : e = .returned (.tuple #[.bool (b1 && b2), .nilIface]) := he.out
                clear he HOf hac HGw HFl
                have Bx := Lib.hid (B0.out.trans (HGx.out.below.mono B0.out.size))
                obtain ⟨ad6, e6, _, hc6⟩ := (HZ.out _ Bx.out).get HGT.out
                obtain rfl := Option.some.inj e6
                obtain ⟨Av, cv, ev, hBv⟩ := gateW_bools HGx.out List.mem_cons_self
                have ev1 : some ⟨g1, 0, none⟩ = Av := by simp only [Value.slice.injEq] at ev; exact ev.1
                subst ev1
                have HFd2 := Lib.hid (HFd.out _ x5 (HA.out _ Bx.out) hBv)
                clear e6 ev hBv HFd
                replace hc6 := hc6.1
                go_wp2_with fail
                refine HFd2.out.mono ?_
                rintro e x6 he6
                obtain ⟨g4, rfl, ho⟩ := he6.out
                have HS4 : Hid (Flg x4 x6 gt AL (offers AL (gate0 AL) (z2.take (i + 1))) (.slice (some ⟨g4, 0, none⟩) (k + 1) (k + 1)) k (vec (mrF z1) (z2.take (i + 1)).reverse)) := ⟨g4, rfl, gateW_weak (HGx.out.join ho.fin) (fun e he => by simp only [List.mem_cons, List.not_mem_nil, or_false] at he; subst he; exact List.mem_cons_self)⟩
                have hcv := bools_cell (own_bools_is ho) HV2.out
                clear he6 ho HGx HFd2 hc6 Bx HV2
                obtain ⟨_, _, hG4⟩ := HS4.out
                have HShx := Lib.hid (HSh.out _ _ _ hG4)
                clear hG4 HSh
                rcases b1 with _ | _ <;> rcases b2 with _ | _
                all_goals as_aux_lemma =>
                  go_wp2_with fail
                  refine HShx.out.mono ?_
                  rintro e x7 ⟨rfl, rfl⟩
                  clear HShx hcv
                  go_wp2
                  go_roundw
                  case rel => exact ⟨i + 1, by omega, by omega, by go_num, by rw [HAll.out]; rfl, HW2, HS4⟩
                  case measure => simp [intOf]; omega
              · have how := offer_wrong (d := AL) (w := z2.take i) (a := z2[i]) (by rw [HEL.out]; exact hin)
                rw [how] at HOf
                have hr2 : z2[i] < 0 ∨ 0 ≤ z2[i] ∧ a0 ≤ z2[i] := by omega
                have HGT := Lib.hid (List.getElem?_eq_getElem hiz)
                clear how hin hil HTk HOt HVf hsa
                generalize z2[i] = a at *
                clear hiz
                go_wp2_with fail
                refine HOf.out.mono ?_
                rintro e x5 ⟨he, HGx⟩
                obtain rfl : e = .returned (.tuple #[.bool false, .iface 67 (.int .i64 1)]) := he.out
                clear he HOf hac HGw HFl
                have Bx := Lib.hid (B0.out.trans (HGx.out.below.mono B0.out.size))
                obtain ⟨ad6, e6, _, hc6, _⟩ := (HZ.out _ Bx.out).get HGT.out
                obtain rfl := Option.some.inj e6
                clear e6
                rcases hr2 with hr2 | ⟨hr2, hr3⟩
                · have t1 : decide (a < 0) = true := decide_eq_true hr2
                  go_wp2
                  go_ret
                  exact ⟨rfl, Bx.out⟩
                · have t1 : decide (a < 0) = false := decide_eq_false (by omega)
                  have t2 : decide (a0 ≤ a) = true := decide_eq_true hr3
                  go_wp2
                  go_ret
                  exact ⟨rfl, Bx.out⟩
            · obtain rfl : i = 80 := by omega
              have e1 : ((80 : Nat) : Int) < (M : Int) := by omega
              clear HFl HGw
              go_wp2
              go_ret
              exact ⟨rfl, HBw.out⟩
          · obtain rfl : i = M := by omega
            clear HFl HGw
            go_wp2
            go_ret
            exact ⟨rfl, HBw.out⟩
    · obtain rfl := hkk g
      have HBk := Lib.hid (fun W A c (hA : NodesAt W W.heap.size A (mrF z1)) => back_gives (E := .iface 67 (.int .i64 4)) (c := c) hL hA hm63 hr rfl)
      rw [hml] at HBk
      have HEr := Lib.hid (fun W (hb : Below w.heap.size w W) => says_gives hg 4 (E := .iface 67 (.int .i64 4)) (K := 4) rfl rfl W hb)
      rw [hn, hM]
      clear hr g hf hg v1 v2 hL hn hM hz2 hf63 hml hm63
      go_enter Tryd.func5, Tryd.ntmps5
      go_wp2_with fail
      refine (HK.out _).mono ?_
      rintro e b1 ⟨rfl, hb⟩
      have B := Lib.hid hb
      clear hb  HK
      go_wp2_with fail
      refine (HMi.out _ (HA.out _ B.out)).mono ?_
      rintro e b2 ⟨he, hb⟩
      obtain ⟨A5, c5, rfl, h5, h6, N5⟩ := he.out
      have N5 := N5
      have B := Lib.hid (B.out.trans (hb.mono B.out.size))
      clear hb he HMi
      go_wp2_with fail
      refine (HBk.out _ _ _ N5.out).mono ?_
      rintro e b3 ⟨L13, s13, A13, n13, c13, F13, m13, k13, rfl, hd, hb⟩
      have N5 := Lib.hid (N5.out.on hb)
      have B := Lib.hid (B.out.trans (hb.mono B.out.size))
      clear hb  HBk
      obtain ⟨x3, hx3, hbn, Vn⟩ := var_new b3 hd.out
      have VA := Lib.hid Vn
      have N5 := Lib.hid (N5.out.on hbn)
      have B := Lib.hid (B.out.trans (hbn.mono B.out.size))
      clear hbn Vn hd
      have HX := Lib.hid hx3
      clear hx3
      go_wp2_with fail
      rw [← HX.out]
      clear HX
      refine (HEr.out _ B.out).mono ?_
      rintro e b4 ⟨rfl, hb⟩
      have N5 := Lib.hid (N5.out.on hb)
      have VA := Lib.hid (VA.out.on hb)
      have B := Lib.hid (B.out.trans (hb.mono B.out.size))
      clear hb  HEr
      clear VA
      go_wp2
      go_ret
      exact ⟨rfl, B.out⟩
  · have HMi := Lib.hid (fun W hA => pmir_no hL hf63 hn hf A1 c1 hc1 W hA)
    rw [errV_pos hf] at HMi
    generalize (fchk a0 (mrF z1) : Int) = qq at *
    rw [hn, hM]
    clear hn hM hL hf hz2 hf63 v1 v2 hg HZ
    go_enter Tryd.func5, Tryd.ntmps5
    go_wp2_with fail
    refine (HK.out _).mono ?_
    rintro e b1 ⟨rfl, hb⟩
    have B := Lib.hid hb
    clear hb  HK
    go_wp2_with fail
    refine (HMi.out _ (HA.out _ B.out)).mono ?_
    rintro e b2 ⟨rfl, hb⟩
    have B := Lib.hid (B.out.trans (hb.mono B.out.size))
    clear hb  HMi
    go_wp2
    go_ret
    exact ⟨rfl, B.out⟩


set_option maxRecDepth 100000 in
theorem lifted (os : Os) (started : os.Started) (H : Type) (enc : TypeId × Value → H) :
    ReturnsInHanded {} Tryd.checked os 5 .any (fun w args => (Rows.topPastSpec.pre enc Tryd.prog Tryd.f5 Rows.topPastRow.domain false w args ∧ laidMetH Tryd.prog [("errors.errorType", Rows.laid_errors_errorType)] w) ∧ sizedMet enc Tryd.prog Tryd.f5 (OpenSpec.ofChange Rows.topPastSpec) false w args) (Rows.topPastSpec.post enc Tryd.prog Tryd.f5 false true false false) := by
  refine returnsInHanded_of_change_and (C := Tryd.checked) (X := fun w _ => laidMetH Tryd.prog [("errors.errorType", Rows.laid_errors_errorType)] w) (fun _ _ _ hh h => h.of_heap hh) own started (by kernel_rfl) Tryd.func5
    (ChangeSpec.witness_at (enc := enc) (C := Tryd.checked) (os := os) (X := fun w _ => laidMetH Tryd.prog [("errors.errorType", Rows.laid_errors_errorType)] w) false (laidWorld os) #[.int .i64 0, .slice none 0 0, .slice none 0 0] 8 rfl (by kernel_rfl) (by kernel_rfl) (by kernel_rfl) (by kernel_rfl) (by kernel_rfl) (laidWorld_met os _)) ?_
  intro W base args ds gs before hval0 hW hcnd hsz0 hL _
  have hval : ∀ (j : Nat) t v, Tryd.f5.params[j]? = some t → args[j]? = some v → Value.okWide Tryd.prog W .any base t v := hval0
  have hsz : (DataW.weightsEach Tryd.prog (Tryd.f5.params.toList ++ Rows.topPastSpec.plain.varTypes Tryd.prog) (ds ++ gs)).all (· ≤ reachBytes) = true := hsz0
  have hW' := hW
  obtain ⟨p, q, hA0, hV0, rfl, hfz, hnd⟩ := hW
  have hV : DataW.TrodVars enc Tryd.prog W (fun _ => true) [] gs q := hV0
  have hA : DataW.TrodAll enc Tryd.prog W 0 (fun _ => true) true Tryd.f5.params.toList args.toList ds p := hA0
  rw [Tryd.params5] at hA hval hsz
  obtain ⟨v0, vs0, d0, ds0, p0, q0, hargs, rfl, rfl, h0, rr0⟩ := trodAll_cons hA
  obtain ⟨v1, vs1, d1, ds1, p1, q1, rfl, rfl, rfl, h1, rr1⟩ := trodAll_cons rr0
  obtain ⟨v2, vs2, d2, ds2, p2, q2, rfl, rfl, rfl, h2, rr2⟩ := trodAll_cons rr1
  obtain ⟨rfl, rfl, rfl⟩ := trodAll_nil rr2
  obtain rfl : args = #[v0, v1, v2] := by cases args; simp_all
  obtain ⟨rfl, rfl⟩ := trodVars_none hV
  have k0 := h0
  have lt0 : ∀ x ∈ p0, x.block < W.heap.size := by obtain ⟨m, hm⟩ := k0; exact DataW.trod_lt m _ _ _ hm
  have k1 := h1
  have lt1 : ∀ x ∈ p1, x.block < W.heap.size := by obtain ⟨m, hm⟩ := k1; exact DataW.trod_lt m _ _ _ hm
  have k2 := h2
  have lt2 : ∀ x ∈ p2, x.block < W.heap.size := by obtain ⟨m, hm⟩ := k2; exact DataW.trod_lt m _ _ _ hm
  obtain ⟨a0, rfl, rfl, rfl, w0⟩ := open_int Tryd.underlying3 (hval 0 3 v0 rfl rfl) h0
  obtain ⟨l0, hh0⟩ := bounds_i64 w0
  obtain ⟨A1, c1, z1, rfl, m1, n1, x1, r1⟩ : ∃ (A : Option Addr) (c : Nat) (l : List Fm.Nd), v1 = .slice A l.length c ∧ l.length ≤ c ∧ c ≤ 9223372036854775807 ∧ Fm.NodesAt W W.heap.size A l ∧ l.length ≤ 5864062014634 := by
    obtain ⟨A, len, c, rfl⟩ := okWide_slice Tryd.underlying48 (hval 1 48 v1 rfl rfl)
    obtain ⟨fuel, hf⟩ := h1
    obtain ⟨A2, c2, l, hcs, q1, q2, q3, q4⟩ := Fm.open_nodes hf
    simp [Value.cells] at hcs
    obtain ⟨rfl, rfl, rfl⟩ := hcs
    refine ⟨_, _, l, rfl, q1, q2, q3, ?_⟩
    rcases q4 with q4 | ⟨es, sp, hd, hl⟩
    · omega
    · have := sized_slice hsz (j := 1) (t := 48) (e := 51) (elems := es) (spare := sp) rfl (by rw [← hd]; rfl) Tryd.underlying48
      rw [(show Tryd.prog.bytesOf 51 = 24 by kernel_rfl)] at this
      simp only [reachBytes] at this
      omega
  obtain ⟨A2, len2, c2, rfl⟩ := okWide_slice Tryd.underlying38 (hval 2 38 v2 rfl rfl)
  obtain ⟨z2, rfl, x2, r2, m2⟩ : ∃ zs : List Int, len2 = zs.length ∧ IntsAt W W.heap.size A2 zs ∧ zs.length ≤ 17592186043904 ∧ zs.length ≤ c2 := by
    obtain ⟨fuel, hf⟩ := h2
    rcases open_ints Tryd.underlying38 Tryd.underlying3 (by kernel_rfl) hf with ⟨hcs, _⟩ | ⟨x, l, c, zs, hcs, _, hl, hm, hz, hx, hcell, hwz⟩
    · simp [Value.cells] at hcs
      obtain ⟨rfl, rfl, rfl⟩ := hcs
      exact ⟨[], rfl, IntsAt.nil _ _ _, by simp, by simp⟩
    · simp [Value.cells] at hcs
      obtain ⟨rfl, rfl, rfl⟩ := hcs
      have hd := congrArg Prod.fst hx
      simp only at hd
      have := sized_slice hsz (j := 2) (t := 38) (e := 3) rfl (by rw [hd]; rfl) Tryd.underlying38
      rw [(show Tryd.prog.bytesOf 3 = 8 by kernel_rfl)] at this
      simp only [reachBytes, lits, List.length_map, List.length_take, List.length_drop] at this
      have hz' : zs.length = c2 := by simpa using hz
      exact ⟨zs.take len2, by rw [List.length_take]; omega, intsAt_of_open hcell hwz len2, by rw [List.length_take]; omega, by rw [List.length_take]; omega⟩
  clear hA0 hval0
  refine (walk a0 A1 c1 z1 A2 c2 z2 W l0 hh0 x1 m1 n1 r1 x2 r2 m2 (handle_of_laid hL)).mono fun e W' ⟨he, bel⟩ => ?_
  subst he
  exact ⟨_, rfl, _, _, _, [], _, [], hW', trodAll_mk1 (shut_bool Tryd.underlying4 _), (trodAll_cons_mk (Below.trod laidOut (by kernel_rfl) (of_decide_eq_true (by kernel_rfl)) k0 bel lt0) (trodAll_cons_mk (Below.trod laidOut (by kernel_rfl) (of_decide_eq_true (by kernel_rfl)) k1 bel lt1) (trodAll_cons_mk (Below.trod laidOut (by kernel_rfl) (of_decide_eq_true (by kernel_rfl)) k2 bel lt2) trodAll_mk0))), rfl, bel.frame _, fun h => by cases h⟩

theorem over : Rows.topPastRow.holds Tryd.pinned (OpenSpec.ofChange Rows.topPastSpec) :=
  OpenClaim.holds_of_wide 5 Tryd.f5 rfl rfl rfl rfl rfl rfl rfl ⟨rfl, rfl, rfl, rfl, rfl⟩ rfl rfl rfl rfl rfl (by kernel_rfl) Tryd.func5 (by kernel_rfl)
    (of_decide_eq_true (by kernel_rfl)) (by unfold Func.isWrapper; rw [if_neg (of_decide_eq_false (by kernel_rfl))]; exact ⟨rfl, rfl⟩)
    (fun os started H enc _ => lifted os started H enc)
theorem proved : Rows.TopPastCardSaid :=
  Claim7.holds_tied_plain_at .later [] [.handle] true (true, "981ca546801be8388c7bf9378d1b5059e79c51583c5f07ade6ebbebc5cd8e8da") true
    over (fun _ h => by cases h) (by kernel_rfl) (fun _ h => by cases h) topPast_row_tie rfl ⟨rfl, rfl⟩ (by kernel_rfl) rfl
    (fun f fn hf hfn => by
      obtain rfl : f = 5 := Option.some.inj ((show Tryd.prog.funcNamed "stileward/stilewardtop.TopPast" = some 5 by kernel_rfl).symm.trans hf) |>.symm
      obtain rfl : fn = Tryd.f5 := (Option.some.inj (Tryd.func5.symm.trans hfn)).symm
      exact ⟨by kernel_rfl, fun j t ht => by
        rw [Tryd.params5] at ht
        rcases j with _ | _ | _ | j
        · obtain rfl : 3 = t := by simpa using ht
          exact (show Tryd.prog.wantsStandIn 3 = false by kernel_rfl)
        · obtain rfl : 48 = t := by simpa using ht
          exact (show Tryd.prog.wantsStandIn 48 = false by kernel_rfl)
        · obtain rfl : 38 = t := by simpa using ht
          exact (show Tryd.prog.wantsStandIn 38 = false by kernel_rfl)
        · simp at ht⟩)
    (by kernel_rfl)
#print axioms proved
end Go.Proofs.YtciopfiddfmckaaDoor.topPast
