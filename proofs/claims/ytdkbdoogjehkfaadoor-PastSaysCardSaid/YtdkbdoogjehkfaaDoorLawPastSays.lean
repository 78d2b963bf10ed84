/-
  The statement PastSaysCardSaid of this seat, proved: for every input the law returns true and its arguments read behind the call as before. Conditions: none but the row's own (each argument within the reach; the listed variable as the program lays it, tied by the given tie).
-/
import Derived.Test.YtdkbdoogjehkfaaDoorRows
import Derived.Test.YtdkbdoogjehkfaaDoorCards
import Derived.Test.YtdkbdoogjehkfaaDoorTie
import Derived.SevenTiedAt
import Derived.LaidLaws
import Derived.LaidHandle
import Derived.LaidMore
import Derived.Lay
import Derived.MakeChecks
import Derived.Stop.Joined
import Derived.JoinedOf
import Derived.RowKit
import Derived.RowKitTokens
import Derived.ChangeSame
import Derived.ChangeVars
import Derived.Test.YtdkbdoogjehkfaaDoorWords
import Derived.WalkKit
import Derived.ProofKit
import Derived.OpenShut
import Derived.ShutString
import Derived.ChangeOld
import Derived.Below
import Derived.SizedLaws
import Derived.Lib.Hide
import Derived.Test.YtdkbdoogjehkfaaDoorRefPf
import Derived.Test.YtdkbdoogjehkfaaDoorRefPast
import Derived.Test.YtdkbdoogjehkfaaDoorRefPt
import Derived.Test.YtdkbdoogjehkfaaDoorRefAt
import Derived.Test.YtdkbdoogjehkfaaDoorDfaV
import Derived.Test.YtdkbdoogjehkfaaDoorBoolO
import Derived.Test.YtdkbdoogjehkfaaDoorSays
namespace Go.Proofs.YtdkbdoogjehkfaaDoor.pastSays
open Go.ChangeShapes Go.WideShapes Go.ChangeAt Go.RowKit Go.IntWalk Go.Proofs.YtdkbdoogjehkfaaDoor.Wd
open Go.ChangeMaps (open_string shut_string)
set_option linter.unusedVariables false

theorem own : ownKnob Tryd.prog.godebug = none := by kernel_rfl
theorem laidOut : laidOutB Tryd.prog = true := by kernel_rfl
theorem et : Tryd.prog.globalNamed "errors.errorType" = some 0 := by kernel_rfl
theorem rt : (Tryd.prog.cutTypes.find? (·.1 == "internal/reflectlite.rtype")).map (·.2) = some 103 := by kernel_rfl
theorem oneRow : ((List.range 146).filter fun t => Tryd.prog.rowNamed t [101, 114, 114, 111, 114]) = [28] := by kernel_rfl
theorem size : Tryd.prog.types.size = 146 := by kernel_rfl
/-- What the condition gives a walk: the variable's one cell. -/
theorem handle_of_laid {w : World} (h : laidMetH Tryd.prog [("errors.errorType", Rows.laid_errors_errorType)] w) : w.cell? ⟨0, 0, none⟩ = some (.iface 103 (.agg #[.pointer (some ⟨1, 28, none⟩)])) := by
  have h' : laidMet Tryd.prog [] w ∧ handlesMet Tryd.prog [("errors.errorType", Rows.laid_errors_errorType)] w := h
  obtain ⟨name, u, ty, e1, e2, e3, e4, e5⟩ := h'.2 _ (List.mem_singleton.2 rfl)
  have en : name = [101, 114, 114, 111, 114] := (Option.some.inj e1).symm
  subst en
  obtain rfl := Option.some.inj (rt.symm.trans e2)
  have hm : ty ∈ (List.range 146).filter fun t => Tryd.prog.rowNamed t [101, 114, 114, 111, 114] := List.mem_filter.2 ⟨List.mem_range.2 (by rw [← size]; exact e3), e4⟩
  rw [oneRow] at hm
  obtain rfl := List.mem_singleton.1 hm
  have hh : typeHandle Tryd.prog 28 = .pointer (some ⟨1, 28, none⟩) := by kernel_rfl
  rw [hh] at e5
  simpa using World.var?_cell et e5 0
/-- A world that meets the condition. -/
noncomputable def laidWorld (os : Os) : World :=
  let w0 := World.holding Tryd.prog os ⟨#[], #[], []⟩
  { w0 with heap := w0.heap.modify 0 fun
      | .cells _ t frozen => .cells #[.iface 103 (.agg #[.pointer (some ⟨1, 28, none⟩)])] t frozen
      | o => o }
theorem laidWorld_met (os : Os) (args : Array Value) : laidMetH Tryd.prog [("errors.errorType", Rows.laid_errors_errorType)] ((laidWorld os).forCall (fun _ _ => 0) ⟨#[], args, []⟩).memory :=
  laidMetH_of_parts (laidMet_nil _ _) (by kernel_rfl)
open Go.Proofs.YtdkbdoogjehkfaaDoor.Wo Go.Proofs.YtdkbdoogjehkfaaDoor.Er Go.Proofs.YtdkbdoogjehkfaaDoor.Fm
theorem says_gives {w : World} (hg : w.cell? ⟨0, 0, none⟩ = some (.iface 103 (.agg #[.pointer (some ⟨1, 28, none⟩)]))) (e : Nat) {E : Value} {K : Int} (hE : errV e = E) (hK : (e : Int) = K) (W : World) (hb : Below w.heap.size w W) :
    Calls Tryd.prog 7 #[E, .int .i64 K] W fun r w' => r = .returned (.bool true) ∧ Below W.heap.size W w' := by
  subst hE
  subst hK
  exact says e hg W hb
theorem pform_is {L : Int} {f : List Nd} {n : Nat} (hn : f.length = n) (hf : f.length ≤ 9223372036854775807) {K : Int} (hK : (fchk L (mrF f) : Int) = K) (A : Option Addr) (c : Nat) (W : World) (hA : NodesAt W W.heap.size A f) :
    Calls Tryd.prog 6 #[.int .i64 L, .slice A n c, .bool true] W fun e w' => e = .returned (.int .i64 K) ∧ Below W.heap.size W w' := by
  subst hn hK
  exact (rpform_any L A c f W hA hf).mono fun e w' ⟨h, hw⟩ => ⟨h.out, by rw [hw]; exact Below.refl _ _⟩
theorem bools_same {x : List Bool} {n : Nat} (hn : x.length = n) (hb : n ≤ 1000) (a b : Option Addr) (ca cb : Nat) (W : World) (h1 : Df.BoolsAt W W.heap.size a x) (h2 : Df.BoolsAt W W.heap.size b x) :
    Calls Tryd.prog 11 #[.slice a n ca, .slice b n cb] W fun e w' => e = .returned (.bool true) ∧ Below W.heap.size W w' := by
  subst hn
  refine (Df.bools_any a b ca cb x x W h1 h2 (by omega) (by omega) true (by simp)).mono fun e w' ⟨h, k, hk⟩ => ⟨h, ?_⟩
  rw [hk]; exact below_drewN (Below.refl _ _) k
theorem bools_none (W : World) : Calls Tryd.prog 11 #[.slice none 0 0, .slice none 0 0] W fun e w' => e = .returned (.bool true) ∧ Below W.heap.size W w' :=
  bools_same (x := []) rfl (by decide) none none 0 0 W (Df.BoolsAt.nil _ _ _) (Df.BoolsAt.nil _ _ _)
theorem word_is {L : Int} (hL : Small L) {z : List Int} {n : Nat} (hn : z.length = n) (hz : z.length ≤ 17592186044416) {K : Int} (hK : (chk L z : Int) = K) (B : Option Addr) (c : Nat) (W : World) (hB : IntsAt W W.heap.size B z) :
    Calls Tryd.prog 12 #[.int .i64 L, .slice B n c] W fun e w' => e = .returned (.int .i64 K) ∧ Below W.heap.size W w' := by
  subst hn hK
  exact (refWord_any L B c z W hL hB hz).mono fun e w' ⟨h, hw⟩ => ⟨h.out, by rw [← hw]; exact Below.refl _ _⟩
/-- What reads as a table of bools, each row in a block of its own. -/
def TRd (w : World) (A : Option Addr) (k N : Nat) (M : Nat → Nat → Bool) : Prop := ∀ i, i < k → ∃ ad g, A = some ad ∧ ad.block < w.heap.size ∧ w.cell? (ad.add i) = some (.slice (some ⟨g, 0, none⟩) N N) ∧ g < w.heap.size ∧ (∀ q, q < N → w.cell? ⟨g, q, none⟩ = some (.bool (M i q)))
theorem TRd.on {w w' : World} {A : Option Addr} {k N : Nat} {M : Nat → Nat → Bool} (h : TRd w A k N M) (hb : Below w.heap.size w w') : TRd w' A k N M := by
  intro i hi
  obtain ⟨ad, g, e, h1, h2, h3, h4⟩ := h i hi
  have hs := hb.size
  refine ⟨ad, g, e, by omega, by rw [hb.cell (by rw [Wd.block_add]; exact h1)]; exact h2, by omega, fun q hq => ?_⟩
  rw [hb.cell (by exact h3)]; exact h4 q hq
theorem ptable_is {L : Int} {f : List Nd} {z : List Int} {n M : Nat} (hn : f.length = n) (hM : z.length = M) (g : FGood L (mrF f)) (hz : Fine L z) (A : Option Addr) (c : Nat) (B : Option Addr) (cb : Nat) (W : World) (hA : NodesAt W W.heap.size A f) (hB : IntsAt W W.heap.size B z) :
    Calls Tryd.prog 10 #[.slice A n c, .slice B M cb] W fun e w' => Hid (∃ A' c', e = .returned (.slice A' n c') ∧ Hid (TRd w' A' n (M + 1) (pat f z))) ∧ Below W.heap.size W w' := by
  subst hn hM
  refine (ptable_any A c f B cb z W hA hB g hz).mono fun e w' he => ?_
  obtain ⟨A', c', rfl, ho⟩ := he.out
  exact ⟨⟨A', c', rfl, fun i hi => to_at ho (by omega) w' (Below.refl _ _) hi⟩, ho.below⟩
theorem row_is {W w' : World} {g n : Nat} {l : List Bool} (ho : Own W w' [eBools (.slice (some ⟨g, 0, none⟩) n n) l] []) : Df.BoolsAt w' w'.heap.size (some ⟨g, 0, none⟩) l := by
  obtain ⟨A5, c5, hv5, _, _, hB5⟩ := Df.own_bools ho (fv := .slice (some ⟨g, 0, none⟩) n n) (bs := l) (by simp)
  simp only [Value.slice.injEq] at hv5
  rw [hv5.1]; exact hB5
theorem start_is {L : Int} (hL : Small L) {f : List Nd} {n : Nat} (hn : f.length = n) (g : FGood L (mrF f)) (A : Option Addr) (c : Nat) (hc : n ≤ c) (W : World) (hA : NodesAt W W.heap.size A f) :
    Calls Tryd.prog 9 #[.int .i64 L, .slice A n c] W fun e w' => Hid (∃ g, e = .returned (.tuple #[.slice (some ⟨g, 0, none⟩) n n, .nilIface]) ∧ Hid (Df.BoolsAt w' w'.heap.size (some ⟨g, 0, none⟩) (vec (mrF f) []))) ∧ Below W.heap.size W w' :=
  (pstart_yes hL hn g A c hc W hA).mono fun e w' he => by
    obtain ⟨g, rfl, ho⟩ := he.out
    exact ⟨⟨g, rfl, row_is ho⟩, ho.below⟩
theorem feed_is {L : Int} (hL : Small L) {f : List Nd} {n : Nat} (hn : f.length = n) (g : FGood L (mrF f)) {T : List Bool} (hT : T.length = n) {a : Int} (ha0 : 0 ≤ a) (haL : a < L) (A : Option Addr) (c : Nat) (hc : n ≤ c) (B : Option Addr) (cb : Nat) (W : World) (hA : NodesAt W W.heap.size A f) (hB : Df.BoolsAt W W.heap.size B T) :
    Calls Tryd.prog 15 #[.int .i64 L, .slice A n c, .slice B n cb, .int .i64 a] W fun e w' => Hid (∃ g, e = .returned (.tuple #[.slice (some ⟨g, 0, none⟩) n n, .nilIface]) ∧ Hid (Df.BoolsAt w' w'.heap.size (some ⟨g, 0, none⟩) (nxt (mrF f) T a))) ∧ Below W.heap.size W w' :=
  (pfeed_yes hL hn g hT ha0 haL A c hc B cb W hA hB).mono fun e w' he => by
    obtain ⟨g, rfl, ho⟩ := he.out
    exact ⟨⟨g, rfl, row_is ho⟩, ho.below⟩
theorem rfeed_is {L : Int} {f : List Nd} {n : Nat} (hn : f.length = n) (g : FGood L (mrF f)) {T : List Bool} (hT : T.length = n) {a : Int} (ha0 : 0 ≤ a) (haL : a < L) (A : Option Addr) (c : Nat) (B : Option Addr) (cb : Nat) (W : World) (hA : NodesAt W W.heap.size A f) (hB : Df.BoolsAt W W.heap.size B T) :
    Calls Tryd.prog 14 #[.slice A n c, .slice B n cb, .int .i64 a] W fun e w' => Hid (∃ A' c', e = .returned (.slice A' n c') ∧ Hid (Df.BoolsAt w' w'.heap.size A' (nxt (mrF f) T a))) ∧ Below W.heap.size W w' := by
  subst hn
  have h6 := g.l6
  refine (rfeed_any A c f B cb T a W hA g hT hB ha0 (by omega)).mono fun e w' he => ?_
  obtain ⟨v, rfl, ho⟩ := he.out
  obtain ⟨A7, c7, rfl, _, _, h3⟩ := Df.own_bools ho List.mem_cons_self
  rw [nxt_length, mrF_length]
  exact ⟨⟨A7, c7, rfl, h3⟩, ho.below⟩
theorem pat_root {f : List Nd} {z : List Int} {k : Nat} (hn : f.length = k + 1) {M : Nat} (hM : z.length = M) : pat f z k M = fval (mrF f) z.reverse := by
  unfold pat fval
  rw [mrF_length, hn, List.take_of_length_le (by omega)]; rfl

set_option maxRecDepth 100000 in
set_option maxHeartbeats 4000000 in
theorem walk (a0 : Int) (A1 : Option Addr) (c1 : Nat) (z1 : List Fm.Nd) (A2 : Option Addr) (c2 : Nat) (z2 : List Int) (A3 : Option Addr) (c3 : Nat) (z3 : List Bool) (a4 : Int) (w : World) (l0 : -9223372036854775808 ≤ a0) (h0 : a0 ≤ 9223372036854775807) (v1 : Fm.NodesAt w w.heap.size A1 z1) (m1 : z1.length ≤ c1) (n1 : c1 ≤ 9223372036854775807) (r1 : z1.length ≤ 5864062014634) (v2 : IntsAt w w.heap.size A2 z2) (r2 : z2.length ≤ 17592186043904) (m2 : z2.length ≤ c2) (v3 : Df.BoolsAt w w.heap.size A3 z3) (m3 : z3.length ≤ c3) (n3 : c3 ≤ 9223372036854775807) (l4 : -9223372036854775808 ≤ a4) (h4 : a4 ≤ 9223372036854775807) (hg : w.cell? ⟨0, 0, none⟩ = some (.iface 103 (.agg #[.pointer (some ⟨1, 28, none⟩)]))) :
    Calls Tryd.prog 3 #[.int .i64 a0, .slice A1 z1.length c1, .slice A2 z2.length c2, .slice A3 z3.length c3, .int .i64 a4] w fun e w' => e = .returned (.bool true) ∧ Below w.heap.size w w' := by
  have hL : Small a0 := ⟨l0, h0⟩
  have HN1 := Lib.hid v1
  have HZ2 := Lib.hid v2
  have HT3 := Lib.hid v3
  obtain ⟨n, hn⟩ : ∃ n, z1.length = n := ⟨_, rfl⟩
  obtain ⟨M, hM⟩ : ∃ M, z2.length = M := ⟨_, rfl⟩
  obtain ⟨N, hN⟩ : ∃ N, z3.length = N := ⟨_, rfl⟩
  have hz2 : z2.length ≤ 17592186044416 := by omega
  have hf63 : z1.length ≤ 9223372036854775807 := by omega
  have hc1 : n ≤ c1 := by omega
  have HB0 := Lib.hid bools_none
  have HCk := Lib.hid (fun W hA => pcheck_any hL hf63 hn A1 c1 hc1 W hA)
  by_cases hf : fchk a0 (mrF z1) = 0
  · have HFm := Lib.hid (pform_is (L := a0) hn hf63 (K := 0) (by rw [hf]; rfl))
    have g := fchk_iff.1 hf
    rw [hf] at HCk
    obtain ⟨k, rfl⟩ : ∃ k, n = k + 1 := ⟨n - 1, by have := g.ne; rw [mrF_length] at this; omega⟩
    have hk40 : k ≤ 39 := by have := g.le; rw [mrF_length] at this; omega
    have HE := Lib.hid (fun W (hb : Below w.heap.size w W) => says_gives hg 0 (E := .nilIface) (K := 0) rfl rfl W hb)
    have HEe := Lib.hid (fun (e : Nat) (he : e ≠ 0) q (hq : q = (e : Int)) W (hb : Below w.heap.size w W) => says_gives hg e (E := .iface 59 (.int .i64 q)) (K := q) (by rw [errV_pos he, hq]) hq.symm W hb)
    have HSt := Lib.hid (fun W hA => start_is hL hn g A1 c1 hc1 W hA)
    have HTb := Lib.hid (fun W hA => ptable_is (L := a0) (z := []) (M := 0) hn rfl g ⟨⟨g.l1, g.l6⟩, by simp, by simp⟩ A1 c1 none 0 W hA (IntsAt.nil _ _ _))
    have hvl : (vec (mrF z1) []).length = k + 1 := by rw [vec_length, mrF_length]; exact hn
    have HVa : Hid (∀ i, i < k + 1 → (vec (mrF z1) [])[i]? = some (pat z1 [] i 0)) := fun i hi => by
      rw [vec_at _ _ (by rw [mrF_length, hn]; exact hi)]; rfl
    have HVl := Lib.hid hvl
    have HG := Lib.hid g
    have HL := Lib.hid hL
    have HNl := Lib.hid hn
    have HMl := Lib.hid hM
    have HNz := Lib.hid hN
    have HF63 := Lib.hid hf63
    have HZ17 := Lib.hid hz2
    have hkk : ((((k + 1 : Nat) : Int)) != (((k + 1 : Nat) : Int))) = false := bne_self_eq_false _
    rw [hn, hM, hN]
    clear hn hM hN hL hf g hz2 hf63 hvl v1 v2 v3 hg
    generalize vec (mrF z1) [] = V at *
    generalize pat z1 [] = P0 at *
    go_enter Tryd.func3, Tryd.ntmps3
    go_wp2_with fail
    refine (HFm.out _ _ _ HN1.out).mono ?_
    rintro e w2 ⟨rfl, hb⟩
    have B2 := Lib.hid hb
    replace HN1 := Lib.hid (HN1.out.on hb)
    replace HZ2 := Lib.hid (HZ2.out.on hb)
    replace HT3 := Lib.hid (HT3.out.on hb)
    clear hb HFm
    go_wp2_with fail
    refine (HCk.out _ HN1.out).mono ?_
    rintro e w3 ⟨rfl, hb⟩
    have B3 := Lib.hid (B2.out.trans (hb.mono B2.out.size))
    replace HN1 := Lib.hid (HN1.out.on hb)
    replace HZ2 := Lib.hid (HZ2.out.on hb)
    replace HT3 := Lib.hid (HT3.out.on hb)
    clear hb HCk
    go_wp2_with fail
    refine (HE.out _ B3.out).mono ?_
    rintro e w4 ⟨rfl, hb⟩
    have B4 := Lib.hid (B3.out.trans (hb.mono B3.out.size))
    replace HN1 := Lib.hid (HN1.out.on hb)
    replace HZ2 := Lib.hid (HZ2.out.on hb)
    replace HT3 := Lib.hid (HT3.out.on hb)
    clear hb 
    go_wp2_with fail
    refine (HSt.out _ HN1.out).mono ?_
    rintro e w5 ⟨he, hb⟩
    obtain ⟨g5, rfl, N5⟩ := he.out
    have B5 := Lib.hid (B4.out.trans (hb.mono B4.out.size))
    replace HN1 := Lib.hid (HN1.out.on hb)
    replace HZ2 := Lib.hid (HZ2.out.on hb)
    replace HT3 := Lib.hid (HT3.out.on hb)
    clear hb he HSt
    go_wp2_with fail
    refine (HTb.out _ HN1.out).mono ?_
    rintro e w6 ⟨he, hb⟩
    obtain ⟨A6, c6, rfl, T6⟩ := he.out
    have B6 := Lib.hid (B5.out.trans (hb.mono B5.out.size))
    replace HN1 := Lib.hid (HN1.out.on hb)
    replace HZ2 := Lib.hid (HZ2.out.on hb)
    replace HT3 := Lib.hid (HT3.out.on hb)
    replace N5 := Lib.hid (N5.out.on hb)
    clear hb he HTb
    go_wp2
    have HT0 : Hid (∀ wr, Below w6.heap.size w6 wr → TRd wr A6 (k + 1) (0 + 1) P0) := fun wr hb => T6.out.on hb
    have HO0 : Hid (Own w6 w6 [eBools (.slice none 0 0) (V.take 0)] []) := (own_start w6).nil 4 1
    clear T6
    go_loopw [15, 17] (fun v s wr => ∃ (i : Nat), i ≤ k + 1 ∧ s = .int .i64 i ∧ Hid (Own w6 wr [eBools v (V.take i)] [])) (fun _ s _ => k + 1 - (intOf s).toNat)
    case atStart => exact ⟨0, by omega, rfl, HO0⟩
    case round =>
      clear HO0
      obtain ⟨i, hi, rfl, HO⟩ := hrel
      by_cases hlt : i < k + 1
      · as_aux_lemma =>
        obtain ⟨ad, g, rfl, hadb, hrow, hgb, hcs⟩ := HT0.out wr HO.out.below i hlt
        have hc := hcs 0 (by omega)
        have HVk := Lib.hid (HVa.out i hlt)
        generalize P0 i 0 = b at *
        have e1 : (i : Int) < (k : Int) + 1 := by omega
        have hlen : (V.take i).length < 17592186044416 := by rw [List.length_take]; omega
        have HPk : Hid (∀ b, V[i]? = some b → V.take i ++ [b] = V.take (i + 1)) := fun b hb => by
          obtain ⟨h1, h2⟩ := List.getElem?_eq_some_iff.1 hb
          rw [← List.take_append_getElem h1, h2]
        obtain ⟨P, hP⟩ : ∃ P, V.take i = P := ⟨_, rfl⟩
        rw [hP] at hlen HO HPk
        clear hcs hP
        go_wp2_with (at_builtin; refine own_bool (y := b) (by rfl) _ _ (by rfl) (by rfl) (HO.out) (by rfl) hlen ?_)
        intro g6 cap6 x6 ho6
        have HE6 : Hid (Own w6 x6 [eBools (.slice (some ⟨g6, 0, none⟩) (P.length + 1) cap6) (V.take (i + 1))] []) := by
          rw [← HPk.out _ HVk.out]; exact ho6
        clear ho6 HO hrow hc HPk HVk
        go_wp2
        go_roundw
        case rel => exact ⟨i + 1, by omega, by go_num, HE6⟩
        case measure => simp [intOf]; omega
      · obtain rfl : i = k + 1 := by omega
        have ho := HO.out
        rw [List.take_of_length_le (by rw [HVl.out]; exact Nat.le_refl _)] at ho
        have hb := ho.below
        obtain ⟨A7, c7, e7, _, _, h7⟩ := Df.own_bools ho List.mem_cons_self
        rw [HVl.out] at e7
        subst e7
        have N7 := Lib.hid h7
        have B7 := Lib.hid (B6.out.trans (hb.mono B6.out.size))
        replace HN1 := Lib.hid (HN1.out.on hb)
        replace HZ2 := Lib.hid (HZ2.out.on hb)
        replace HT3 := Lib.hid (HT3.out.on hb)
        replace N5 := Lib.hid (N5.out.on hb)
        have HBs := Lib.hid (bools_same HVl.out (by omega))
        clear ho hb h7 HO HT0 HVa hlt hi
        go_wp2_with fail
        refine (HE.out _ B7.out).mono ?_
        rintro e w8 ⟨rfl, hb⟩
        have B8 := Lib.hid (B7.out.trans (hb.mono B7.out.size))
        replace HN1 := Lib.hid (HN1.out.on hb)
        replace HZ2 := Lib.hid (HZ2.out.on hb)
        replace HT3 := Lib.hid (HT3.out.on hb)
        replace N5 := Lib.hid (N5.out.on hb)
        replace N7 := Lib.hid (N7.out.on hb)
        clear hb 
        go_wp2_with fail
        refine (HBs.out _ _ _ _ _ N5.out N7.out).mono ?_
        rintro e w9 ⟨rfl, hb⟩
        have B9 := Lib.hid (B8.out.trans (hb.mono B8.out.size))
        replace HN1 := Lib.hid (HN1.out.on hb)
        replace HZ2 := Lib.hid (HZ2.out.on hb)
        replace HT3 := Lib.hid (HT3.out.on hb)
        replace N5 := Lib.hid (N5.out.on hb)
        replace N7 := Lib.hid (N7.out.on hb)
        clear hb HBs
        clear N5 N7
        by_cases hc : chk a0 z2 = 0
        · have hw := chk_iff.1 hc
          have HWd := Lib.hid (word_is HL.out HMl.out HZ17.out (K := 0) (by rw [hc]; rfl))
          have HH := Lib.hid (fun W hA hB => pholds_yes HL.out HNl.out HMl.out HG.out hw A1 c1 hc1 A2 c2 W hA hB)
          have HTw := Lib.hid (fun W hA hB => ptable_is HNl.out HMl.out HG.out hw A1 c1 A2 c2 W hA hB)
          have HRt := Lib.hid (pat_root (z := z2) HNl.out HMl.out)
          generalize fval (mrF z1) z2.reverse = b at *
          have hbb : (b == b) = true := beq_self_eq_true _
          clear hc hw
          by_cases hNk : N = k + 1
          · subst hNk
            by_cases ha : a4 < 0 ∨ a0 ≤ a4
            · have hfe : feedErr a0 z1 (k + 1) a4 = 1 := by unfold feedErr; rw [if_pos (fchk_iff.2 HG.out), if_neg (by have := HNl.out; omega), if_pos ha]
              have HPf := Lib.hid (fun W hA => pfeed_no (k := k + 1) (a := a4) HL.out HF63.out HNl.out (by rw [hfe]; decide) A1 c1 hc1 A3 c3 W hA)
              have HEf := Lib.hid (HEe.out 1 (by decide) 1 rfl)
              rw [hfe] at HPf
              simp only [errV] at HPf
              clear hfe HEe HG HL HNl HMl HNz HF63 HZ17
              rcases ha with ha | ha
              · as_aux_lemma =>
                go_wp2_with fail
                refine (HWd.out _ _ _ HZ2.out).mono ?_
                rintro e w10 ⟨rfl, hb⟩
                have B10 := Lib.hid (B9.out.trans (hb.mono B9.out.size))
                replace HN1 := Lib.hid (HN1.out.on hb)
                replace HZ2 := Lib.hid (HZ2.out.on hb)
                replace HT3 := Lib.hid (HT3.out.on hb)
                clear hb HWd
                go_wp2_with fail
                refine (HH.out _ HN1.out HZ2.out).mono ?_
                rintro e w11 ⟨rfl, hb⟩
                have B11 := Lib.hid (B10.out.trans (hb.mono B10.out.size))
                replace HN1 := Lib.hid (HN1.out.on hb)
                replace HZ2 := Lib.hid (HZ2.out.on hb)
                replace HT3 := Lib.hid (HT3.out.on hb)
                clear hb HH
                go_wp2_with fail
                refine (HE.out _ B11.out).mono ?_
                rintro e w12 ⟨rfl, hb⟩
                have B12 := Lib.hid (B11.out.trans (hb.mono B11.out.size))
                replace HN1 := Lib.hid (HN1.out.on hb)
                replace HZ2 := Lib.hid (HZ2.out.on hb)
                replace HT3 := Lib.hid (HT3.out.on hb)
                clear hb 
                go_wp2_with fail
                refine (HTw.out _ HN1.out HZ2.out).mono ?_
                rintro e w13 ⟨he, hb⟩
                obtain ⟨A9, c9, rfl, T9⟩ := he.out
                have B13 := Lib.hid (B12.out.trans (hb.mono B12.out.size))
                replace HN1 := Lib.hid (HN1.out.on hb)
                replace HZ2 := Lib.hid (HZ2.out.on hb)
                replace HT3 := Lib.hid (HT3.out.on hb)
                clear hb he HTw
                obtain ⟨ad9, g9, rfl, hadb9, hrow9, hgb9, hcs9⟩ := T9.out k (by omega)
                have hc9 := hcs9 M (by omega)
                rw [HRt.out] at hc9
                clear hcs9 HRt T9
                go_wp2_with fail
                refine (HPf.out _ HN1.out).mono ?_
                rintro e w14 ⟨rfl, hb⟩
                have B14 := Lib.hid (B13.out.trans (hb.mono B13.out.size))
                replace HN1 := Lib.hid (HN1.out.on hb)
                replace HZ2 := Lib.hid (HZ2.out.on hb)
                replace HT3 := Lib.hid (HT3.out.on hb)
                clear hb HPf hrow9 hc9 hadb9 hgb9
                go_wp2_with fail
                refine (HEf.out _ B14.out).mono ?_
                rintro e w15 ⟨rfl, hb⟩
                have B15 := Lib.hid (B14.out.trans (hb.mono B14.out.size))
                replace HN1 := Lib.hid (HN1.out.on hb)
                replace HZ2 := Lib.hid (HZ2.out.on hb)
                replace HT3 := Lib.hid (HT3.out.on hb)
                clear hb HEf
                go_wp2_with fail
                refine (HB0.out _).mono ?_
                rintro e w16 ⟨rfl, hb⟩
                have B16 := Lib.hid (B15.out.trans (hb.mono B15.out.size))
                replace HN1 := Lib.hid (HN1.out.on hb)
                replace HZ2 := Lib.hid (HZ2.out.on hb)
                replace HT3 := Lib.hid (HT3.out.on hb)
                clear hb HB0
                go_wp2
                go_ret
                exact ⟨by simp, B16.out⟩
              · by_cases ha0 : a4 < 0
                · as_aux_lemma =>
                  clear ha
                  go_wp2_with fail
                  refine (HWd.out _ _ _ HZ2.out).mono ?_
                  rintro e w10 ⟨rfl, hb⟩
                  have B10 := Lib.hid (B9.out.trans (hb.mono B9.out.size))
                  replace HN1 := Lib.hid (HN1.out.on hb)
                  replace HZ2 := Lib.hid (HZ2.out.on hb)
                  replace HT3 := Lib.hid (HT3.out.on hb)
                  clear hb HWd
                  go_wp2_with fail
                  refine (HH.out _ HN1.out HZ2.out).mono ?_
                  rintro e w11 ⟨rfl, hb⟩
                  have B11 := Lib.hid (B10.out.trans (hb.mono B10.out.size))
                  replace HN1 := Lib.hid (HN1.out.on hb)
                  replace HZ2 := Lib.hid (HZ2.out.on hb)
                  replace HT3 := Lib.hid (HT3.out.on hb)
                  clear hb HH
                  go_wp2_with fail
                  refine (HE.out _ B11.out).mono ?_
                  rintro e w12 ⟨rfl, hb⟩
                  have B12 := Lib.hid (B11.out.trans (hb.mono B11.out.size))
                  replace HN1 := Lib.hid (HN1.out.on hb)
                  replace HZ2 := Lib.hid (HZ2.out.on hb)
                  replace HT3 := Lib.hid (HT3.out.on hb)
                  clear hb 
                  go_wp2_with fail
                  refine (HTw.out _ HN1.out HZ2.out).mono ?_
                  rintro e w13 ⟨he, hb⟩
                  obtain ⟨A9, c9, rfl, T9⟩ := he.out
                  have B13 := Lib.hid (B12.out.trans (hb.mono B12.out.size))
                  replace HN1 := Lib.hid (HN1.out.on hb)
                  replace HZ2 := Lib.hid (HZ2.out.on hb)
                  replace HT3 := Lib.hid (HT3.out.on hb)
                  clear hb he HTw
                  obtain ⟨ad9, g9, rfl, hadb9, hrow9, hgb9, hcs9⟩ := T9.out k (by omega)
                  have hc9 := hcs9 M (by omega)
                  rw [HRt.out] at hc9
                  clear hcs9 HRt T9
                  go_wp2_with fail
                  refine (HPf.out _ HN1.out).mono ?_
                  rintro e w14 ⟨rfl, hb⟩
                  have B14 := Lib.hid (B13.out.trans (hb.mono B13.out.size))
                  replace HN1 := Lib.hid (HN1.out.on hb)
                  replace HZ2 := Lib.hid (HZ2.out.on hb)
                  replace HT3 := Lib.hid (HT3.out.on hb)
                  clear hb HPf hrow9 hc9 hadb9 hgb9
                  go_wp2_with fail
                  refine (HEf.out _ B14.out).mono ?_
                  rintro e w15 ⟨rfl, hb⟩
                  have B15 := Lib.hid (B14.out.trans (hb.mono B14.out.size))
                  replace HN1 := Lib.hid (HN1.out.on hb)
                  replace HZ2 := Lib.hid (HZ2.out.on hb)
                  replace HT3 := Lib.hid (HT3.out.on hb)
                  clear hb HEf
                  go_wp2_with fail
                  refine (HB0.out _).mono ?_
                  rintro e w16 ⟨rfl, hb⟩
                  have B16 := Lib.hid (B15.out.trans (hb.mono B15.out.size))
                  replace HN1 := Lib.hid (HN1.out.on hb)
                  replace HZ2 := Lib.hid (HZ2.out.on hb)
                  replace HT3 := Lib.hid (HT3.out.on hb)
                  clear hb HB0
                  go_wp2
                  go_ret
                  exact ⟨by simp, B16.out⟩
                · as_aux_lemma =>
                  go_wp2_with fail
                  refine (HWd.out _ _ _ HZ2.out).mono ?_
                  rintro e w10 ⟨rfl, hb⟩
                  have B10 := Lib.hid (B9.out.trans (hb.mono B9.out.size))
                  replace HN1 := Lib.hid (HN1.out.on hb)
                  replace HZ2 := Lib.hid (HZ2.out.on hb)
                  replace HT3 := Lib.hid (HT3.out.on hb)
                  clear hb HWd
                  go_wp2_with fail
                  refine (HH.out _ HN1.out HZ2.out).mono ?_
                  rintro e w11 ⟨rfl, hb⟩
                  have B11 := Lib.hid (B10.out.trans (hb.mono B10.out.size))
                  replace HN1 := Lib.hid (HN1.out.on hb)
                  replace HZ2 := Lib.hid (HZ2.out.on hb)
                  replace HT3 := Lib.hid (HT3.out.on hb)
                  clear hb HH
                  go_wp2_with fail
                  refine (HE.out _ B11.out).mono ?_
                  rintro e w12 ⟨rfl, hb⟩
                  have B12 := Lib.hid (B11.out.trans (hb.mono B11.out.size))
                  replace HN1 := Lib.hid (HN1.out.on hb)
                  replace HZ2 := Lib.hid (HZ2.out.on hb)
                  replace HT3 := Lib.hid (HT3.out.on hb)
                  clear hb 
                  go_wp2_with fail
                  refine (HTw.out _ HN1.out HZ2.out).mono ?_
                  rintro e w13 ⟨he, hb⟩
                  obtain ⟨A9, c9, rfl, T9⟩ := he.out
                  have B13 := Lib.hid (B12.out.trans (hb.mono B12.out.size))
                  replace HN1 := Lib.hid (HN1.out.on hb)
                  replace HZ2 := Lib.hid (HZ2.out.on hb)
                  replace HT3 := Lib.hid (HT3.out.on hb)
                  clear hb he HTw
                  obtain ⟨ad9, g9, rfl, hadb9, hrow9, hgb9, hcs9⟩ := T9.out k (by omega)
                  have hc9 := hcs9 M (by omega)
                  rw [HRt.out] at hc9
                  clear hcs9 HRt T9
                  go_wp2_with fail
                  refine (HPf.out _ HN1.out).mono ?_
                  rintro e w14 ⟨rfl, hb⟩
                  have B14 := Lib.hid (B13.out.trans (hb.mono B13.out.size))
                  replace HN1 := Lib.hid (HN1.out.on hb)
                  replace HZ2 := Lib.hid (HZ2.out.on hb)
                  replace HT3 := Lib.hid (HT3.out.on hb)
                  clear hb HPf hrow9 hc9 hadb9 hgb9
                  go_wp2_with fail
                  refine (HEf.out _ B14.out).mono ?_
                  rintro e w15 ⟨rfl, hb⟩
                  have B15 := Lib.hid (B14.out.trans (hb.mono B14.out.size))
                  replace HN1 := Lib.hid (HN1.out.on hb)
                  replace HZ2 := Lib.hid (HZ2.out.on hb)
                  replace HT3 := Lib.hid (HT3.out.on hb)
                  clear hb HEf
                  go_wp2_with fail
                  refine (HB0.out _).mono ?_
                  rintro e w16 ⟨rfl, hb⟩
                  have B16 := Lib.hid (B15.out.trans (hb.mono B15.out.size))
                  replace HN1 := Lib.hid (HN1.out.on hb)
                  replace HZ2 := Lib.hid (HZ2.out.on hb)
                  replace HT3 := Lib.hid (HT3.out.on hb)
                  clear hb HB0
                  go_wp2
                  go_ret
                  exact ⟨by simp, B16.out⟩
            · have HRf := Lib.hid (fun W hA hB => rfeed_is HNl.out HG.out HNz.out (a := a4) (by omega) (by omega) A1 c1 A3 c3 W hA hB)
              have HPf := Lib.hid (fun W hA hB => feed_is HL.out HNl.out HG.out HNz.out (a := a4) (by omega) (by omega) A1 c1 hc1 A3 c3 W hA hB)
              have HBf := Lib.hid (bools_same (x := nxt (mrF z1) z3 a4) (n := k + 1) (by rw [nxt_length, mrF_length]; exact HNl.out) (by omega))
              have ha1 : ¬ a4 < 0 := by omega
              have ha2 : a4 < a0 := by omega
              generalize nxt (mrF z1) z3 a4 = V3 at *
              clear ha HEe HG HL HNl HMl HNz HF63 HZ17
              as_aux_lemma =>
              go_wp2_with fail
              refine (HWd.out _ _ _ HZ2.out).mono ?_
              rintro e w10 ⟨rfl, hb⟩
              have B10 := Lib.hid (B9.out.trans (hb.mono B9.out.size))
              replace HN1 := Lib.hid (HN1.out.on hb)
              replace HZ2 := Lib.hid (HZ2.out.on hb)
              replace HT3 := Lib.hid (HT3.out.on hb)
              clear hb HWd
              go_wp2_with fail
              refine (HH.out _ HN1.out HZ2.out).mono ?_
              rintro e w11 ⟨rfl, hb⟩
              have B11 := Lib.hid (B10.out.trans (hb.mono B10.out.size))
              replace HN1 := Lib.hid (HN1.out.on hb)
              replace HZ2 := Lib.hid (HZ2.out.on hb)
              replace HT3 := Lib.hid (HT3.out.on hb)
              clear hb HH
              go_wp2_with fail
              refine (HE.out _ B11.out).mono ?_
              rintro e w12 ⟨rfl, hb⟩
              have B12 := Lib.hid (B11.out.trans (hb.mono B11.out.size))
              replace HN1 := Lib.hid (HN1.out.on hb)
              replace HZ2 := Lib.hid (HZ2.out.on hb)
              replace HT3 := Lib.hid (HT3.out.on hb)
              clear hb 
              go_wp2_with fail
              refine (HTw.out _ HN1.out HZ2.out).mono ?_
              rintro e w13 ⟨he, hb⟩
              obtain ⟨A9, c9, rfl, T9⟩ := he.out
              have B13 := Lib.hid (B12.out.trans (hb.mono B12.out.size))
              replace HN1 := Lib.hid (HN1.out.on hb)
              replace HZ2 := Lib.hid (HZ2.out.on hb)
              replace HT3 := Lib.hid (HT3.out.on hb)
              clear hb he HTw
              obtain ⟨ad9, g9, rfl, hadb9, hrow9, hgb9, hcs9⟩ := T9.out k (by omega)
              have hc9 := hcs9 M (by omega)
              rw [HRt.out] at hc9
              clear hcs9 HRt T9
              go_wp2_with fail
              refine (HRf.out _ HN1.out HT3.out).mono ?_
              rintro e w14 ⟨he, hb⟩
              obtain ⟨A8, c8, rfl, N8⟩ := he.out
              have B14 := Lib.hid (B13.out.trans (hb.mono B13.out.size))
              replace HN1 := Lib.hid (HN1.out.on hb)
              replace HZ2 := Lib.hid (HZ2.out.on hb)
              replace HT3 := Lib.hid (HT3.out.on hb)
              clear hb he HRf hrow9 hc9 hadb9 hgb9
              go_wp2_with fail
              refine (HPf.out _ HN1.out HT3.out).mono ?_
              rintro e w15 ⟨he, hb⟩
              obtain ⟨g8, rfl, M8⟩ := he.out
              have B15 := Lib.hid (B14.out.trans (hb.mono B14.out.size))
              replace HN1 := Lib.hid (HN1.out.on hb)
              replace HZ2 := Lib.hid (HZ2.out.on hb)
              replace HT3 := Lib.hid (HT3.out.on hb)
              replace N8 := Lib.hid (N8.out.on hb)
              clear hb he HPf
              go_wp2_with fail
              refine (HE.out _ B15.out).mono ?_
              rintro e w16 ⟨rfl, hb⟩
              have B16 := Lib.hid (B15.out.trans (hb.mono B15.out.size))
              replace HN1 := Lib.hid (HN1.out.on hb)
              replace HZ2 := Lib.hid (HZ2.out.on hb)
              replace HT3 := Lib.hid (HT3.out.on hb)
              replace N8 := Lib.hid (N8.out.on hb)
              replace M8 := Lib.hid (M8.out.on hb)
              clear hb HE
              go_wp2_with fail
              refine (HBf.out _ _ _ _ _ M8.out N8.out).mono ?_
              rintro e w17 ⟨rfl, hb⟩
              have B17 := Lib.hid (B16.out.trans (hb.mono B16.out.size))
              replace HN1 := Lib.hid (HN1.out.on hb)
              replace HZ2 := Lib.hid (HZ2.out.on hb)
              replace HT3 := Lib.hid (HT3.out.on hb)
              replace N8 := Lib.hid (N8.out.on hb)
              replace M8 := Lib.hid (M8.out.on hb)
              clear hb HBf
              go_wp2
              go_ret
              exact ⟨by simp, B17.out⟩
          · have hfe : feedErr a0 z1 N a4 = 3 := by unfold feedErr; rw [if_pos (fchk_iff.2 HG.out), if_pos (by have := HNl.out; omega)]
            have HPf := Lib.hid (fun W hA => pfeed_no (k := N) (a := a4) HL.out HF63.out HNl.out (by rw [hfe]; decide) A1 c1 hc1 A3 c3 W hA)
            have HEf := Lib.hid (HEe.out 3 (by decide) 3 rfl)
            rw [hfe] at HPf
            simp only [errV] at HPf
            have hne : ((N : Int) != ((k + 1 : Nat) : Int)) = true := bne_iff_ne.2 (by omega)
            have hne2 : ((N : Int) != (k : Int) + 1) = true := bne_iff_ne.2 (by omega)
            clear hfe HEe HG HL HNl HMl HNz HF63 HZ17
            as_aux_lemma =>
            go_wp2_with fail
            refine (HWd.out _ _ _ HZ2.out).mono ?_
            rintro e w10 ⟨rfl, hb⟩
            have B10 := Lib.hid (B9.out.trans (hb.mono B9.out.size))
            replace HN1 := Lib.hid (HN1.out.on hb)
            replace HZ2 := Lib.hid (HZ2.out.on hb)
            replace HT3 := Lib.hid (HT3.out.on hb)
            clear hb HWd
            go_wp2_with fail
            refine (HH.out _ HN1.out HZ2.out).mono ?_
            rintro e w11 ⟨rfl, hb⟩
            have B11 := Lib.hid (B10.out.trans (hb.mono B10.out.size))
            replace HN1 := Lib.hid (HN1.out.on hb)
            replace HZ2 := Lib.hid (HZ2.out.on hb)
            replace HT3 := Lib.hid (HT3.out.on hb)
            clear hb HH
            go_wp2_with fail
            refine (HE.out _ B11.out).mono ?_
            rintro e w12 ⟨rfl, hb⟩
            have B12 := Lib.hid (B11.out.trans (hb.mono B11.out.size))
            replace HN1 := Lib.hid (HN1.out.on hb)
            replace HZ2 := Lib.hid (HZ2.out.on hb)
            replace HT3 := Lib.hid (HT3.out.on hb)
            clear hb 
            go_wp2_with fail
            refine (HTw.out _ HN1.out HZ2.out).mono ?_
            rintro e w13 ⟨he, hb⟩
            obtain ⟨A9, c9, rfl, T9⟩ := he.out
            have B13 := Lib.hid (B12.out.trans (hb.mono B12.out.size))
            replace HN1 := Lib.hid (HN1.out.on hb)
            replace HZ2 := Lib.hid (HZ2.out.on hb)
            replace HT3 := Lib.hid (HT3.out.on hb)
            clear hb he HTw
            obtain ⟨ad9, g9, rfl, hadb9, hrow9, hgb9, hcs9⟩ := T9.out k (by omega)
            have hc9 := hcs9 M (by omega)
            rw [HRt.out] at hc9
            clear hcs9 HRt T9
            go_wp2_with fail
            refine (HPf.out _ HN1.out).mono ?_
            rintro e w14 ⟨rfl, hb⟩
            have B14 := Lib.hid (B13.out.trans (hb.mono B13.out.size))
            replace HN1 := Lib.hid (HN1.out.on hb)
            replace HZ2 := Lib.hid (HZ2.out.on hb)
            replace HT3 := Lib.hid (HT3.out.on hb)
            clear hb HPf hrow9 hc9 hadb9 hgb9
            go_wp2_with fail
            refine (HEf.out _ B14.out).mono ?_
            rintro e w15 ⟨rfl, hb⟩
            have B15 := Lib.hid (B14.out.trans (hb.mono B14.out.size))
            replace HN1 := Lib.hid (HN1.out.on hb)
            replace HZ2 := Lib.hid (HZ2.out.on hb)
            replace HT3 := Lib.hid (HT3.out.on hb)
            clear hb HEf
            go_wp2_with fail
            refine (HB0.out _).mono ?_
            rintro e w16 ⟨rfl, hb⟩
            have B16 := Lib.hid (B15.out.trans (hb.mono B15.out.size))
            replace HN1 := Lib.hid (HN1.out.on hb)
            replace HZ2 := Lib.hid (HZ2.out.on hb)
            replace HT3 := Lib.hid (HT3.out.on hb)
            clear hb HB0
            go_wp2
            go_ret
            exact ⟨by simp, B16.out⟩
        · have HWd := Lib.hid (word_is HL.out HMl.out HZ17.out (K := (chk a0 z2 : Int)) rfl)
          have hv : verr a0 (mrF z1) z2 = chk a0 z2 := by unfold verr; rw [if_pos (fchk_iff.2 HG.out)]
          have HH := Lib.hid (fun W hA hB => pholds_no HL.out HF63.out HZ17.out HNl.out HMl.out (by rw [hv]; exact hc) A1 c1 hc1 A2 c2 W hA hB)
          have HEw := Lib.hid (HEe.out (chk a0 z2) hc _ rfl)
          rw [hv, errV_pos hc] at HH
          have hq0 : (((chk a0 z2 : Nat) : Int) == 0) = false := beq_eq_false_iff_ne.2 (by omega)
          generalize ((chk a0 z2 : Nat) : Int) = q at *
          clear hc hv
          by_cases hNk : N = k + 1
          · subst hNk
            by_cases ha : a4 < 0 ∨ a0 ≤ a4
            · have hfe : feedErr a0 z1 (k + 1) a4 = 1 := by unfold feedErr; rw [if_pos (fchk_iff.2 HG.out), if_neg (by have := HNl.out; omega), if_pos ha]
              have HPf := Lib.hid (fun W hA => pfeed_no (k := k + 1) (a := a4) HL.out HF63.out HNl.out (by rw [hfe]; decide) A1 c1 hc1 A3 c3 W hA)
              have HEf := Lib.hid (HEe.out 1 (by decide) 1 rfl)
              rw [hfe] at HPf
              simp only [errV] at HPf
              clear hfe HEe HG HL HNl HMl HNz HF63 HZ17
              rcases ha with ha | ha
              · as_aux_lemma =>
                go_wp2_with fail
                refine (HWd.out _ _ _ HZ2.out).mono ?_
                rintro e w10 ⟨rfl, hb⟩
                have B10 := Lib.hid (B9.out.trans (hb.mono B9.out.size))
                replace HN1 := Lib.hid (HN1.out.on hb)
                replace HZ2 := Lib.hid (HZ2.out.on hb)
                replace HT3 := Lib.hid (HT3.out.on hb)
                clear hb HWd
                go_wp2_with fail
                refine (HH.out _ HN1.out HZ2.out).mono ?_
                rintro e w11 ⟨rfl, hb⟩
                have B11 := Lib.hid (B10.out.trans (hb.mono B10.out.size))
                replace HN1 := Lib.hid (HN1.out.on hb)
                replace HZ2 := Lib.hid (HZ2.out.on hb)
                replace HT3 := Lib.hid (HT3.out.on hb)
                clear hb HH
                go_wp2_with fail
                refine (HEw.out _ B11.out).mono ?_
                rintro e w12 ⟨rfl, hb⟩
                have B12 := Lib.hid (B11.out.trans (hb.mono B11.out.size))
                replace HN1 := Lib.hid (HN1.out.on hb)
                replace HZ2 := Lib.hid (HZ2.out.on hb)
                replace HT3 := Lib.hid (HT3.out.on hb)
                clear hb HEw
                go_wp2_with fail
                refine (HPf.out _ HN1.out).mono ?_
                rintro e w13 ⟨rfl, hb⟩
                have B13 := Lib.hid (B12.out.trans (hb.mono B12.out.size))
                replace HN1 := Lib.hid (HN1.out.on hb)
                replace HZ2 := Lib.hid (HZ2.out.on hb)
                replace HT3 := Lib.hid (HT3.out.on hb)
                clear hb HPf
                go_wp2_with fail
                refine (HEf.out _ B13.out).mono ?_
                rintro e w14 ⟨rfl, hb⟩
                have B14 := Lib.hid (B13.out.trans (hb.mono B13.out.size))
                replace HN1 := Lib.hid (HN1.out.on hb)
                replace HZ2 := Lib.hid (HZ2.out.on hb)
                replace HT3 := Lib.hid (HT3.out.on hb)
                clear hb HEf
                go_wp2_with fail
                refine (HB0.out _).mono ?_
                rintro e w15 ⟨rfl, hb⟩
                have B15 := Lib.hid (B14.out.trans (hb.mono B14.out.size))
                replace HN1 := Lib.hid (HN1.out.on hb)
                replace HZ2 := Lib.hid (HZ2.out.on hb)
                replace HT3 := Lib.hid (HT3.out.on hb)
                clear hb HB0
                go_wp2
                go_ret
                exact ⟨by simp, B15.out⟩
              · by_cases ha0 : a4 < 0
                · as_aux_lemma =>
                  clear ha
                  go_wp2_with fail
                  refine (HWd.out _ _ _ HZ2.out).mono ?_
                  rintro e w10 ⟨rfl, hb⟩
                  have B10 := Lib.hid (B9.out.trans (hb.mono B9.out.size))
                  replace HN1 := Lib.hid (HN1.out.on hb)
                  replace HZ2 := Lib.hid (HZ2.out.on hb)
                  replace HT3 := Lib.hid (HT3.out.on hb)
                  clear hb HWd
                  go_wp2_with fail
                  refine (HH.out _ HN1.out HZ2.out).mono ?_
                  rintro e w11 ⟨rfl, hb⟩
                  have B11 := Lib.hid (B10.out.trans (hb.mono B10.out.size))
                  replace HN1 := Lib.hid (HN1.out.on hb)
                  replace HZ2 := Lib.hid (HZ2.out.on hb)
                  replace HT3 := Lib.hid (HT3.out.on hb)
                  clear hb HH
                  go_wp2_with fail
                  refine (HEw.out _ B11.out).mono ?_
                  rintro e w12 ⟨rfl, hb⟩
                  have B12 := Lib.hid (B11.out.trans (hb.mono B11.out.size))
                  replace HN1 := Lib.hid (HN1.out.on hb)
                  replace HZ2 := Lib.hid (HZ2.out.on hb)
                  replace HT3 := Lib.hid (HT3.out.on hb)
                  clear hb HEw
                  go_wp2_with fail
                  refine (HPf.out _ HN1.out).mono ?_
                  rintro e w13 ⟨rfl, hb⟩
                  have B13 := Lib.hid (B12.out.trans (hb.mono B12.out.size))
                  replace HN1 := Lib.hid (HN1.out.on hb)
                  replace HZ2 := Lib.hid (HZ2.out.on hb)
                  replace HT3 := Lib.hid (HT3.out.on hb)
                  clear hb HPf
                  go_wp2_with fail
                  refine (HEf.out _ B13.out).mono ?_
                  rintro e w14 ⟨rfl, hb⟩
                  have B14 := Lib.hid (B13.out.trans (hb.mono B13.out.size))
                  replace HN1 := Lib.hid (HN1.out.on hb)
                  replace HZ2 := Lib.hid (HZ2.out.on hb)
                  replace HT3 := Lib.hid (HT3.out.on hb)
                  clear hb HEf
                  go_wp2_with fail
                  refine (HB0.out _).mono ?_
                  rintro e w15 ⟨rfl, hb⟩
                  have B15 := Lib.hid (B14.out.trans (hb.mono B14.out.size))
                  replace HN1 := Lib.hid (HN1.out.on hb)
                  replace HZ2 := Lib.hid (HZ2.out.on hb)
                  replace HT3 := Lib.hid (HT3.out.on hb)
                  clear hb HB0
                  go_wp2
                  go_ret
                  exact ⟨by simp, B15.out⟩
                · as_aux_lemma =>
                  go_wp2_with fail
                  refine (HWd.out _ _ _ HZ2.out).mono ?_
                  rintro e w10 ⟨rfl, hb⟩
                  have B10 := Lib.hid (B9.out.trans (hb.mono B9.out.size))
                  replace HN1 := Lib.hid (HN1.out.on hb)
                  replace HZ2 := Lib.hid (HZ2.out.on hb)
                  replace HT3 := Lib.hid (HT3.out.on hb)
                  clear hb HWd
                  go_wp2_with fail
                  refine (HH.out _ HN1.out HZ2.out).mono ?_
                  rintro e w11 ⟨rfl, hb⟩
                  have B11 := Lib.hid (B10.out.trans (hb.mono B10.out.size))
                  replace HN1 := Lib.hid (HN1.out.on hb)
                  replace HZ2 := Lib.hid (HZ2.out.on hb)
                  replace HT3 := Lib.hid (HT3.out.on hb)
                  clear hb HH
                  go_wp2_with fail
                  refine (HEw.out _ B11.out).mono ?_
                  rintro e w12 ⟨rfl, hb⟩
                  have B12 := Lib.hid (B11.out.trans (hb.mono B11.out.size))
                  replace HN1 := Lib.hid (HN1.out.on hb)
                  replace HZ2 := Lib.hid (HZ2.out.on hb)
                  replace HT3 := Lib.hid (HT3.out.on hb)
                  clear hb HEw
                  go_wp2_with fail
                  refine (HPf.out _ HN1.out).mono ?_
                  rintro e w13 ⟨rfl, hb⟩
                  have B13 := Lib.hid (B12.out.trans (hb.mono B12.out.size))
                  replace HN1 := Lib.hid (HN1.out.on hb)
                  replace HZ2 := Lib.hid (HZ2.out.on hb)
                  replace HT3 := Lib.hid (HT3.out.on hb)
                  clear hb HPf
                  go_wp2_with fail
                  refine (HEf.out _ B13.out).mono ?_
                  rintro e w14 ⟨rfl, hb⟩
                  have B14 := Lib.hid (B13.out.trans (hb.mono B13.out.size))
                  replace HN1 := Lib.hid (HN1.out.on hb)
                  replace HZ2 := Lib.hid (HZ2.out.on hb)
                  replace HT3 := Lib.hid (HT3.out.on hb)
                  clear hb HEf
                  go_wp2_with fail
                  refine (HB0.out _).mono ?_
                  rintro e w15 ⟨rfl, hb⟩
                  have B15 := Lib.hid (B14.out.trans (hb.mono B14.out.size))
                  replace HN1 := Lib.hid (HN1.out.on hb)
                  replace HZ2 := Lib.hid (HZ2.out.on hb)
                  replace HT3 := Lib.hid (HT3.out.on hb)
                  clear hb HB0
                  go_wp2
                  go_ret
                  exact ⟨by simp, B15.out⟩
            · have HRf := Lib.hid (fun W hA hB => rfeed_is HNl.out HG.out HNz.out (a := a4) (by omega) (by omega) A1 c1 A3 c3 W hA hB)
              have HPf := Lib.hid (fun W hA hB => feed_is HL.out HNl.out HG.out HNz.out (a := a4) (by omega) (by omega) A1 c1 hc1 A3 c3 W hA hB)
              have HBf := Lib.hid (bools_same (x := nxt (mrF z1) z3 a4) (n := k + 1) (by rw [nxt_length, mrF_length]; exact HNl.out) (by omega))
              have ha1 : ¬ a4 < 0 := by omega
              have ha2 : a4 < a0 := by omega
              generalize nxt (mrF z1) z3 a4 = V3 at *
              clear ha HEe HG HL HNl HMl HNz HF63 HZ17
              as_aux_lemma =>
              go_wp2_with fail
              refine (HWd.out _ _ _ HZ2.out).mono ?_
              rintro e w10 ⟨rfl, hb⟩
              have B10 := Lib.hid (B9.out.trans (hb.mono B9.out.size))
              replace HN1 := Lib.hid (HN1.out.on hb)
              replace HZ2 := Lib.hid (HZ2.out.on hb)
              replace HT3 := Lib.hid (HT3.out.on hb)
              clear hb HWd
              go_wp2_with fail
              refine (HH.out _ HN1.out HZ2.out).mono ?_
              rintro e w11 ⟨rfl, hb⟩
              have B11 := Lib.hid (B10.out.trans (hb.mono B10.out.size))
              replace HN1 := Lib.hid (HN1.out.on hb)
              replace HZ2 := Lib.hid (HZ2.out.on hb)
              replace HT3 := Lib.hid (HT3.out.on hb)
              clear hb HH
              go_wp2_with fail
              refine (HEw.out _ B11.out).mono ?_
              rintro e w12 ⟨rfl, hb⟩
              have B12 := Lib.hid (B11.out.trans (hb.mono B11.out.size))
              replace HN1 := Lib.hid (HN1.out.on hb)
              replace HZ2 := Lib.hid (HZ2.out.on hb)
              replace HT3 := Lib.hid (HT3.out.on hb)
              clear hb HEw
              go_wp2_with fail
              refine (HRf.out _ HN1.out HT3.out).mono ?_
              rintro e w13 ⟨he, hb⟩
              obtain ⟨A8, c8, rfl, N8⟩ := he.out
              have B13 := Lib.hid (B12.out.trans (hb.mono B12.out.size))
              replace HN1 := Lib.hid (HN1.out.on hb)
              replace HZ2 := Lib.hid (HZ2.out.on hb)
              replace HT3 := Lib.hid (HT3.out.on hb)
              clear hb he HRf
              go_wp2_with fail
              refine (HPf.out _ HN1.out HT3.out).mono ?_
              rintro e w14 ⟨he, hb⟩
              obtain ⟨g8, rfl, M8⟩ := he.out
              have B14 := Lib.hid (B13.out.trans (hb.mono B13.out.size))
              replace HN1 := Lib.hid (HN1.out.on hb)
              replace HZ2 := Lib.hid (HZ2.out.on hb)
              replace HT3 := Lib.hid (HT3.out.on hb)
              replace N8 := Lib.hid (N8.out.on hb)
              clear hb he HPf
              go_wp2_with fail
              refine (HE.out _ B14.out).mono ?_
              rintro e w15 ⟨rfl, hb⟩
              have B15 := Lib.hid (B14.out.trans (hb.mono B14.out.size))
              replace HN1 := Lib.hid (HN1.out.on hb)
              replace HZ2 := Lib.hid (HZ2.out.on hb)
              replace HT3 := Lib.hid (HT3.out.on hb)
              replace N8 := Lib.hid (N8.out.on hb)
              replace M8 := Lib.hid (M8.out.on hb)
              clear hb HE
              go_wp2_with fail
              refine (HBf.out _ _ _ _ _ M8.out N8.out).mono ?_
              rintro e w16 ⟨rfl, hb⟩
              have B16 := Lib.hid (B15.out.trans (hb.mono B15.out.size))
              replace HN1 := Lib.hid (HN1.out.on hb)
              replace HZ2 := Lib.hid (HZ2.out.on hb)
              replace HT3 := Lib.hid (HT3.out.on hb)
              replace N8 := Lib.hid (N8.out.on hb)
              replace M8 := Lib.hid (M8.out.on hb)
              clear hb HBf
              go_wp2
              go_ret
              exact ⟨by simp, B16.out⟩
          · have hfe : feedErr a0 z1 N a4 = 3 := by unfold feedErr; rw [if_pos (fchk_iff.2 HG.out), if_pos (by have := HNl.out; omega)]
            have HPf := Lib.hid (fun W hA => pfeed_no (k := N) (a := a4) HL.out HF63.out HNl.out (by rw [hfe]; decide) A1 c1 hc1 A3 c3 W hA)
            have HEf := Lib.hid (HEe.out 3 (by decide) 3 rfl)
            rw [hfe] at HPf
            simp only [errV] at HPf
            have hne : ((N : Int) != ((k + 1 : Nat) : Int)) = true := bne_iff_ne.2 (by omega)
            have hne2 : ((N : Int) != (k : Int) + 1) = true := bne_iff_ne.2 (by omega)
            clear hfe HEe HG HL HNl HMl HNz HF63 HZ17
            as_aux_lemma =>
            go_wp2_with fail
            refine (HWd.out _ _ _ HZ2.out).mono ?_
            rintro e w10 ⟨rfl, hb⟩
            have B10 := Lib.hid (B9.out.trans (hb.mono B9.out.size))
            replace HN1 := Lib.hid (HN1.out.on hb)
            replace HZ2 := Lib.hid (HZ2.out.on hb)
            replace HT3 := Lib.hid (HT3.out.on hb)
            clear hb HWd
            go_wp2_with fail
            refine (HH.out _ HN1.out HZ2.out).mono ?_
            rintro e w11 ⟨rfl, hb⟩
            have B11 := Lib.hid (B10.out.trans (hb.mono B10.out.size))
            replace HN1 := Lib.hid (HN1.out.on hb)
            replace HZ2 := Lib.hid (HZ2.out.on hb)
            replace HT3 := Lib.hid (HT3.out.on hb)
            clear hb HH
            go_wp2_with fail
            refine (HEw.out _ B11.out).mono ?_
            rintro e w12 ⟨rfl, hb⟩
            have B12 := Lib.hid (B11.out.trans (hb.mono B11.out.size))
            replace HN1 := Lib.hid (HN1.out.on hb)
            replace HZ2 := Lib.hid (HZ2.out.on hb)
            replace HT3 := Lib.hid (HT3.out.on hb)
            clear hb HEw
            go_wp2_with fail
            refine (HPf.out _ HN1.out).mono ?_
            rintro e w13 ⟨rfl, hb⟩
            have B13 := Lib.hid (B12.out.trans (hb.mono B12.out.size))
            replace HN1 := Lib.hid (HN1.out.on hb)
            replace HZ2 := Lib.hid (HZ2.out.on hb)
            replace HT3 := Lib.hid (HT3.out.on hb)
            clear hb HPf
            go_wp2_with fail
            refine (HEf.out _ B13.out).mono ?_
            rintro e w14 ⟨rfl, hb⟩
            have B14 := Lib.hid (B13.out.trans (hb.mono B13.out.size))
            replace HN1 := Lib.hid (HN1.out.on hb)
            replace HZ2 := Lib.hid (HZ2.out.on hb)
            replace HT3 := Lib.hid (HT3.out.on hb)
            clear hb HEf
            go_wp2_with fail
            refine (HB0.out _).mono ?_
            rintro e w15 ⟨rfl, hb⟩
            have B15 := Lib.hid (B14.out.trans (hb.mono B14.out.size))
            replace HN1 := Lib.hid (HN1.out.on hb)
            replace HZ2 := Lib.hid (HZ2.out.on hb)
            replace HT3 := Lib.hid (HT3.out.on hb)
            clear hb HB0
            go_wp2
            go_ret
            exact ⟨by simp, B15.out⟩
  · obtain ⟨q, hq⟩ : ∃ q : Int, q = (fchk a0 (mrF z1) : Int) := ⟨_, rfl⟩
    have HFm := Lib.hid (pform_is (L := a0) hn hf63 (K := q) hq.symm)
    have hv : verr a0 (mrF z1) z2 = fchk a0 (mrF z1) := by unfold verr; rw [if_neg hf]
    have hfe : feedErr a0 z1 N a4 = fchk a0 (mrF z1) := by unfold feedErr; rw [if_neg hf]
    have HSt := Lib.hid (fun W hA => pstart_no hL hf63 hn hf A1 c1 hc1 W hA)
    have HH := Lib.hid (fun W hA hB => pholds_no hL hf63 hz2 hn hM (by rw [hv]; exact hf) A1 c1 hc1 A2 c2 W hA hB)
    have HPf := Lib.hid (fun W hA => pfeed_no (k := N) (a := a4) hL hf63 hn (by rw [hfe]; exact hf) A1 c1 hc1 A3 c3 W hA)
    have HE := Lib.hid (fun W (hb : Below w.heap.size w W) => says_gives hg (fchk a0 (mrF z1)) (E := .iface 59 (.int .i64 q)) (K := q) (by rw [errV_pos hf, hq]) hq.symm W hb)
    rw [hv, errV_pos hf, ← hq] at HH
    rw [hfe, errV_pos hf, ← hq] at HPf
    rw [errV_pos hf, ← hq] at HCk HSt
    have hq0 : (q == 0) = false := beq_eq_false_iff_ne.2 (by omega)
    rw [hn, hM, hN]
    clear hn hM hN hL hf hv hfe hg hz2 hf63 v1 v2 v3 hq HT3
    go_enter Tryd.func3, Tryd.ntmps3
    go_wp2_with fail
    refine (HFm.out _ _ _ HN1.out).mono ?_
    rintro e w2 ⟨rfl, hb⟩
    have B2 := Lib.hid hb
    replace HN1 := Lib.hid (HN1.out.on hb)
    replace HZ2 := Lib.hid (HZ2.out.on hb)
    clear hb HFm
    go_wp2_with fail
    refine (HCk.out _ HN1.out).mono ?_
    rintro e w3 ⟨rfl, hb⟩
    have B3 := Lib.hid (B2.out.trans (hb.mono B2.out.size))
    replace HN1 := Lib.hid (HN1.out.on hb)
    replace HZ2 := Lib.hid (HZ2.out.on hb)
    clear hb HCk
    go_wp2_with fail
    refine (HE.out _ B3.out).mono ?_
    rintro e w4 ⟨rfl, hb⟩
    have B4 := Lib.hid (B3.out.trans (hb.mono B3.out.size))
    replace HN1 := Lib.hid (HN1.out.on hb)
    replace HZ2 := Lib.hid (HZ2.out.on hb)
    clear hb 
    go_wp2_with fail
    refine (HSt.out _ HN1.out).mono ?_
    rintro e w5 ⟨rfl, hb⟩
    have B5 := Lib.hid (B4.out.trans (hb.mono B4.out.size))
    replace HN1 := Lib.hid (HN1.out.on hb)
    replace HZ2 := Lib.hid (HZ2.out.on hb)
    clear hb HSt
    go_wp2_with fail
    refine (HE.out _ B5.out).mono ?_
    rintro e w6 ⟨rfl, hb⟩
    have B6 := Lib.hid (B5.out.trans (hb.mono B5.out.size))
    replace HN1 := Lib.hid (HN1.out.on hb)
    replace HZ2 := Lib.hid (HZ2.out.on hb)
    clear hb 
    go_wp2_with fail
    refine (HB0.out _).mono ?_
    rintro e w7 ⟨rfl, hb⟩
    have B7 := Lib.hid (B6.out.trans (hb.mono B6.out.size))
    replace HN1 := Lib.hid (HN1.out.on hb)
    replace HZ2 := Lib.hid (HZ2.out.on hb)
    clear hb 
    go_wp2_with fail
    refine (HH.out _ HN1.out HZ2.out).mono ?_
    rintro e w8 ⟨rfl, hb⟩
    have B8 := Lib.hid (B7.out.trans (hb.mono B7.out.size))
    replace HN1 := Lib.hid (HN1.out.on hb)
    replace HZ2 := Lib.hid (HZ2.out.on hb)
    clear hb HH
    go_wp2_with fail
    refine (HE.out _ B8.out).mono ?_
    rintro e w9 ⟨rfl, hb⟩
    have B9 := Lib.hid (B8.out.trans (hb.mono B8.out.size))
    replace HN1 := Lib.hid (HN1.out.on hb)
    replace HZ2 := Lib.hid (HZ2.out.on hb)
    clear hb 
    go_wp2_with fail
    refine (HPf.out _ HN1.out).mono ?_
    rintro e w10 ⟨rfl, hb⟩
    have B10 := Lib.hid (B9.out.trans (hb.mono B9.out.size))
    replace HN1 := Lib.hid (HN1.out.on hb)
    replace HZ2 := Lib.hid (HZ2.out.on hb)
    clear hb HPf
    go_wp2_with fail
    refine (HE.out _ B10.out).mono ?_
    rintro e w11 ⟨rfl, hb⟩
    have B11 := Lib.hid (B10.out.trans (hb.mono B10.out.size))
    replace HN1 := Lib.hid (HN1.out.on hb)
    replace HZ2 := Lib.hid (HZ2.out.on hb)
    clear hb HE
    go_wp2_with fail
    refine (HB0.out _).mono ?_
    rintro e w12 ⟨rfl, hb⟩
    have B12 := Lib.hid (B11.out.trans (hb.mono B11.out.size))
    replace HN1 := Lib.hid (HN1.out.on hb)
    replace HZ2 := Lib.hid (HZ2.out.on hb)
    clear hb HB0
    go_wp2
    go_ret
    exact ⟨rfl, B12.out⟩


set_option maxRecDepth 100000 in
theorem lifted (os : Os) (started : os.Started) (H : Type) (enc : TypeId × Value → H) :
    ReturnsInHanded {} Tryd.checked os 3 .any (fun w args => (Rows.pastSaysSpec.pre enc Tryd.prog Tryd.f3 Rows.pastSaysRow.domain false w args ∧ laidMetH Tryd.prog [("errors.errorType", Rows.laid_errors_errorType)] w) ∧ sizedMet enc Tryd.prog Tryd.f3 (OpenSpec.ofChange Rows.pastSaysSpec) false w args) (Rows.pastSaysSpec.post enc Tryd.prog Tryd.f3 false true false false) := by
  refine returnsInHanded_of_change_and (C := Tryd.checked) (X := fun w _ => laidMetH Tryd.prog [("errors.errorType", Rows.laid_errors_errorType)] w) (fun _ _ _ hh h => h.of_heap hh) own started (by kernel_rfl) Tryd.func3
    (ChangeSpec.witness_at (enc := enc) (C := Tryd.checked) (os := os) (X := fun w _ => laidMetH Tryd.prog [("errors.errorType", Rows.laid_errors_errorType)] w) false (laidWorld os) #[.int .i64 0, .slice none 0 0, .slice none 0 0, .slice none 0 0, .int .i64 0] 8 rfl (by kernel_rfl) (by kernel_rfl) (by kernel_rfl) (by kernel_rfl) (by kernel_rfl) (laidWorld_met os _)) ?_
  intro W base args ds gs before hval0 hW hcnd hsz0 hL _
  have hval : ∀ (j : Nat) t v, Tryd.f3.params[j]? = some t → args[j]? = some v → Value.okWide Tryd.prog W .any base t v := hval0
  have hsz : (DataW.weightsEach Tryd.prog (Tryd.f3.params.toList ++ Rows.pastSaysSpec.plain.varTypes Tryd.prog) (ds ++ gs)).all (· ≤ reachBytes) = true := hsz0
  have hW' := hW
  obtain ⟨p, q, hA0, hV0, rfl, hfz, hnd⟩ := hW
  have hV : DataW.TrodVars enc Tryd.prog W (fun _ => true) [] gs q := hV0
  have hA : DataW.TrodAll enc Tryd.prog W 0 (fun _ => true) true Tryd.f3.params.toList args.toList ds p := hA0
  rw [Tryd.params3] at hA hval hsz
  obtain ⟨v0, vs0, d0, ds0, p0, q0, hargs, rfl, rfl, h0, rr0⟩ := trodAll_cons hA
  obtain ⟨v1, vs1, d1, ds1, p1, q1, rfl, rfl, rfl, h1, rr1⟩ := trodAll_cons rr0
  obtain ⟨v2, vs2, d2, ds2, p2, q2, rfl, rfl, rfl, h2, rr2⟩ := trodAll_cons rr1
  obtain ⟨v3, vs3, d3, ds3, p3, q3, rfl, rfl, rfl, h3, rr3⟩ := trodAll_cons rr2
  obtain ⟨v4, vs4, d4, ds4, p4, q4, rfl, rfl, rfl, h4, rr4⟩ := trodAll_cons rr3
  obtain ⟨rfl, rfl, rfl⟩ := trodAll_nil rr4
  obtain rfl : args = #[v0, v1, v2, v3, v4] := by cases args; simp_all
  obtain ⟨rfl, rfl⟩ := trodVars_none hV
  have k0 := h0
  have lt0 : ∀ x ∈ p0, x.block < W.heap.size := by obtain ⟨m, hm⟩ := k0; exact DataW.trod_lt m _ _ _ hm
  have k1 := h1
  have lt1 : ∀ x ∈ p1, x.block < W.heap.size := by obtain ⟨m, hm⟩ := k1; exact DataW.trod_lt m _ _ _ hm
  have k2 := h2
  have lt2 : ∀ x ∈ p2, x.block < W.heap.size := by obtain ⟨m, hm⟩ := k2; exact DataW.trod_lt m _ _ _ hm
  have k3 := h3
  have lt3 : ∀ x ∈ p3, x.block < W.heap.size := by obtain ⟨m, hm⟩ := k3; exact DataW.trod_lt m _ _ _ hm
  have k4 := h4
  have lt4 : ∀ x ∈ p4, x.block < W.heap.size := by obtain ⟨m, hm⟩ := k4; exact DataW.trod_lt m _ _ _ hm
  obtain ⟨a0, rfl, rfl, rfl, w0⟩ := open_int Tryd.underlying3 (hval 0 3 v0 rfl rfl) h0
  obtain ⟨l0, hh0⟩ := bounds_i64 w0
  obtain ⟨A1, c1, z1, rfl, m1, n1, x1, r1⟩ : ∃ (A : Option Addr) (c : Nat) (l : List Fm.Nd), v1 = .slice A l.length c ∧ l.length ≤ c ∧ c ≤ 9223372036854775807 ∧ Fm.NodesAt W W.heap.size A l ∧ l.length ≤ 5864062014634 := by
    obtain ⟨A, len, c, rfl⟩ := okWide_slice Tryd.underlying22 (hval 1 22 v1 rfl rfl)
    obtain ⟨fuel, hf⟩ := h1
    obtain ⟨A2, c2, l, hcs, q1, q2, q3, q4⟩ := Fm.open_nodes hf
    simp [Value.cells] at hcs
    obtain ⟨rfl, rfl, rfl⟩ := hcs
    refine ⟨_, _, l, rfl, q1, q2, q3, ?_⟩
    rcases q4 with q4 | ⟨es, sp, hd, hl⟩
    · omega
    · have := sized_slice hsz (j := 1) (t := 22) (e := 57) (elems := es) (spare := sp) rfl (by rw [← hd]; rfl) Tryd.underlying22
      rw [(show Tryd.prog.bytesOf 57 = 24 by kernel_rfl)] at this
      simp only [reachBytes] at this
      omega
  obtain ⟨A2, len2, c2, rfl⟩ := okWide_slice Tryd.underlying23 (hval 2 23 v2 rfl rfl)
  obtain ⟨z2, rfl, x2, r2, m2⟩ : ∃ zs : List Int, len2 = zs.length ∧ IntsAt W W.heap.size A2 zs ∧ zs.length ≤ 17592186043904 ∧ zs.length ≤ c2 := by
    obtain ⟨fuel, hf⟩ := h2
    rcases open_ints Tryd.underlying23 Tryd.underlying3 (by kernel_rfl) hf with ⟨hcs, _⟩ | ⟨x, l, c, zs, hcs, _, hl, hm, hz, hx, hcell, hwz⟩
    · simp [Value.cells] at hcs
      obtain ⟨rfl, rfl, rfl⟩ := hcs
      exact ⟨[], rfl, IntsAt.nil _ _ _, by simp, by simp⟩
    · simp [Value.cells] at hcs
      obtain ⟨rfl, rfl, rfl⟩ := hcs
      have hd := congrArg Prod.fst hx
      simp only at hd
      have := sized_slice hsz (j := 2) (t := 23) (e := 3) rfl (by rw [hd]; rfl) Tryd.underlying23
      rw [(show Tryd.prog.bytesOf 3 = 8 by kernel_rfl)] at this
      simp only [reachBytes, lits, List.length_map, List.length_take, List.length_drop] at this
      have hz' : zs.length = c2 := by simpa using hz
      exact ⟨zs.take len2, by rw [List.length_take]; omega, intsAt_of_open hcell hwz len2, by rw [List.length_take]; omega, by rw [List.length_take]; omega⟩
  obtain ⟨A3, c3, z3, rfl, m3, n3, x3⟩ := Df.bools_open (hval 3 24 v3 rfl rfl) h3
  obtain ⟨a4, rfl, rfl, rfl, w4⟩ := open_int Tryd.underlying3 (hval 4 3 v4 rfl rfl) h4
  obtain ⟨l4, hh4⟩ := bounds_i64 w4
  clear hA0 hval0
  refine (walk a0 A1 c1 z1 A2 c2 z2 A3 c3 z3 a4 W l0 hh0 x1 m1 n1 r1 x2 r2 m2 x3 m3 n3 l4 hh4 (handle_of_laid hL)).mono fun e W' ⟨he, bel⟩ => ?_
  subst he
  exact ⟨_, rfl, _, _, _, [], _, [], hW', trodAll_mk1 (shut_bool Tryd.underlying4 _), (trodAll_cons_mk (Below.trod laidOut (by kernel_rfl) (of_decide_eq_true (by kernel_rfl)) k0 bel lt0) (trodAll_cons_mk (Below.trod laidOut (by kernel_rfl) (of_decide_eq_true (by kernel_rfl)) k1 bel lt1) (trodAll_cons_mk (Below.trod laidOut (by kernel_rfl) (of_decide_eq_true (by kernel_rfl)) k2 bel lt2) (trodAll_cons_mk (Below.trod laidOut (by kernel_rfl) (of_decide_eq_true (by kernel_rfl)) k3 bel lt3) (trodAll_cons_mk (Below.trod laidOut (by kernel_rfl) (of_decide_eq_true (by kernel_rfl)) k4 bel lt4) trodAll_mk0))))), rfl, bel.frame _, fun h => by cases h⟩

theorem over : Rows.pastSaysRow.holds Tryd.pinned (OpenSpec.ofChange Rows.pastSaysSpec) :=
  OpenClaim.holds_of_wide 3 Tryd.f3 rfl rfl rfl rfl rfl rfl rfl ⟨rfl, rfl, rfl, rfl, rfl⟩ rfl rfl rfl rfl rfl (by kernel_rfl) Tryd.func3 (by kernel_rfl)
    (of_decide_eq_true (by kernel_rfl)) (by unfold Func.isWrapper; rw [if_neg (of_decide_eq_false (by kernel_rfl))]; exact ⟨rfl, rfl⟩)
    (fun os started H enc _ => lifted os started H enc)
theorem proved : Rows.PastSaysCardSaid :=
  Claim7.holds_tied_plain_at .later [] [.handle] true (true, "052976ef47c006fc6db55b391aee047266882a13868b527c28e54604fc64ad30") true
    over (fun _ h => by cases h) (by kernel_rfl) (fun _ h => by cases h) pastSays_row_tie rfl ⟨rfl, rfl⟩ (by kernel_rfl) rfl
    (fun f fn hf hfn => by
      obtain rfl : f = 3 := Option.some.inj ((show Tryd.prog.funcNamed "stileward/stilewardlaw3.PastSays" = some 3 by kernel_rfl).symm.trans hf) |>.symm
      obtain rfl : fn = Tryd.f3 := (Option.some.inj (Tryd.func3.symm.trans hfn)).symm
      exact ⟨by kernel_rfl, fun j t ht => by
        rw [Tryd.params3] at ht
        rcases j with _ | _ | _ | _ | _ | j
        · obtain rfl : 3 = t := by simpa using ht
          exact (show Tryd.prog.wantsStandIn 3 = false by kernel_rfl)
        · obtain rfl : 22 = t := by simpa using ht
          exact (show Tryd.prog.wantsStandIn 22 = false by kernel_rfl)
        · obtain rfl : 23 = t := by simpa using ht
          exact (show Tryd.prog.wantsStandIn 23 = false by kernel_rfl)
        · obtain rfl : 24 = t := by simpa using ht
          exact (show Tryd.prog.wantsStandIn 24 = false by kernel_rfl)
        · obtain rfl : 3 = t := by simpa using ht
          exact (show Tryd.prog.wantsStandIn 3 = false by kernel_rfl)
        · simp at ht⟩)
    (by kernel_rfl)
#print axioms proved
end Go.Proofs.YtdkbdoogjehkfaaDoor.pastSays
