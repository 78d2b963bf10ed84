/-
  The statement MeanPlainCardSaid of this seat, proved: for every input the law returns true and its arguments read behind the call as before. Conditions: none but the row's own (each argument within the reach; the listed variable as the program lays it, tied by the given tie).
-/
import Derived.Test.YtaelgnmklepebaaDoorRows
import Derived.Test.YtaelgnmklepebaaDoorCards
import Derived.Test.YtaelgnmklepebaaDoorTie
import Derived.SevenTiedAt
import Derived.LaidLaws
import Derived.LaidHandle
import Derived.LaidMore
import Derived.Lay
import Derived.MakeChecks
import Derived.Stop.Joined
import Derived.JoinedOf
import Derived.RowKit
import Derived.RowKitTokens
import Derived.ChangeSame
import Derived.ChangeVars
import Derived.Test.YtaelgnmklepebaaDoorWords
import Derived.WalkKit
import Derived.ProofKit
import Derived.OpenShut
import Derived.ShutString
import Derived.ChangeOld
import Derived.Below
import Derived.SizedLaws
import Derived.Lib.Hide
import Derived.Test.YtaelgnmklepebaaDoorRefPl
import Derived.Test.YtaelgnmklepebaaDoorRefForm
import Derived.Test.YtaelgnmklepebaaDoorSameNodes
import Derived.Test.YtaelgnmklepebaaDoorSays
namespace Go.Proofs.YtaelgnmklepebaaDoor.meanPlain
open Go.ChangeShapes Go.WideShapes Go.ChangeAt Go.RowKit Go.IntWalk Go.Proofs.YtaelgnmklepebaaDoor.Wd
open Go.ChangeMaps (open_string shut_string)
set_option linter.unusedVariables false

theorem own : ownKnob Tryd.prog.godebug = none := by kernel_rfl
theorem laidOut : laidOutB Tryd.prog = true := by kernel_rfl
theorem et : Tryd.prog.globalNamed "errors.errorType" = some 1 := by kernel_rfl
theorem rt : (Tryd.prog.cutTypes.find? (·.1 == "internal/reflectlite.rtype")).map (·.2) = some 123 := by kernel_rfl
theorem oneRow : ((List.range 175).filter fun t => Tryd.prog.rowNamed t [101, 114, 114, 111, 114]) = [25] := by kernel_rfl
theorem size : Tryd.prog.types.size = 175 := by kernel_rfl
/-- What the condition gives a walk: the variable's one cell. -/
theorem handle_of_laid {w : World} (h : laidMetH Tryd.prog [("errors.errorType", Rows.laid_errors_errorType), ("stileward/mean.exchanged", Rows.laid_stileward_mean_exchanged)] w) : w.cell? ⟨1, 0, none⟩ = some (.iface 123 (.agg #[.pointer (some ⟨5, 25, none⟩)])) := by
  have h' : laidMet Tryd.prog [("stileward/mean.exchanged", Rows.laid_stileward_mean_exchanged)] w ∧ handlesMet Tryd.prog [("errors.errorType", Rows.laid_errors_errorType)] w := h
  obtain ⟨name, u, ty, e1, e2, e3, e4, e5⟩ := h'.2 _ (List.mem_singleton.2 rfl)
  have en : name = [101, 114, 114, 111, 114] := (Option.some.inj e1).symm
  subst en
  obtain rfl := Option.some.inj (rt.symm.trans e2)
  have hm : ty ∈ (List.range 175).filter fun t => Tryd.prog.rowNamed t [101, 114, 114, 111, 114] := List.mem_filter.2 ⟨List.mem_range.2 (by rw [← size]; exact e3), e4⟩
  rw [oneRow] at hm
  obtain rfl := List.mem_singleton.1 hm
  have hh : typeHandle Tryd.prog 25 = .pointer (some ⟨5, 25, none⟩) := by kernel_rfl
  rw [hh] at e5
  simpa using World.var?_cell et e5 0
theorem etx : Tryd.prog.globalNamed "stileward/mean.exchanged" = some 0 := by kernel_rfl
theorem tyx : (Tryd.prog.globals[0]?).map (·.type) = some 97 := by kernel_rfl
set_option maxRecDepth 100000 in
set_option maxHeartbeats 4000000 in
/-- What the condition gives a walk: the table's ten cells. -/
theorem exchanged_of_laid {w : World} (h : laidMetH Tryd.prog [("errors.errorType", Rows.laid_errors_errorType), ("stileward/mean.exchanged", Rows.laid_stileward_mean_exchanged)] w) : Fm.ExAt w := by
  have h' : laidMet Tryd.prog [("stileward/mean.exchanged", Rows.laid_stileward_mean_exchanged)] w ∧ handlesMet Tryd.prog [("errors.errorType", Rows.laid_errors_errorType)] w := h
  obtain ⟨ps, ⟨g, t, cs, fuel, p, q, hg, ht, hv, hd, _, _⟩, _, _⟩ := h'.1
  obtain rfl := Option.some.inj (etx.symm.trans hg)
  obtain rfl := Option.some.inj (tyx.symm.trans ht)
  have c5 : Tryd.prog.cellsOf 3 = 1 := by kernel_rfl
  have c97 : Tryd.prog.cellsOf 97 = 10 := by kernel_rfl
  have hvv : w.var? Tryd.prog "stileward/mean.exchanged" = some #[.int .i64 1, .int .i64 0, .int .i64 2, .int .i64 3, .int .i64 5, .int .i64 4, .int .i64 7, .int .i64 6, .int .i64 9, .int .i64 8] := by
    obtain ⟨xs, m, _, ex, hlen, hl, hel⟩ := DataW.trod_array Tryd.underlying97 hd
    rw [c97] at hlen
    obtain ⟨l⟩ := cs
    match l, hlen with
    | [a0, a1, a2, a3, a4, a5, a6, a7, a8, a9], _ =>
      match xs, hl with
      | [x0, x1, x2, x3, x4, x5, x6, x7, x8, x9], _ =>
        have e3 := (DataW.agg.inj (Prod.mk.inj ex).1)
        simp only [List.map_cons, List.map_nil, List.cons.injEq, and_true] at e3
        obtain ⟨f0, f1, f2, f3, f4, f5, f6, f7, f8, f9⟩ := e3
        have k0 := hel 0 (by omega)
        rw [c5] at k0
        obtain ⟨z0, b0, d0, _⟩ := DataW.trod_int Tryd.underlying3 k0
        have k1 := hel 1 (by omega)
        rw [c5] at k1
        obtain ⟨z1, b1, d1, _⟩ := DataW.trod_int Tryd.underlying3 k1
        have k2 := hel 2 (by omega)
        rw [c5] at k2
        obtain ⟨z2, b2, d2, _⟩ := DataW.trod_int Tryd.underlying3 k2
        have k3 := hel 3 (by omega)
        rw [c5] at k3
        obtain ⟨z3, b3, d3, _⟩ := DataW.trod_int Tryd.underlying3 k3
        have k4 := hel 4 (by omega)
        rw [c5] at k4
        obtain ⟨z4, b4, d4, _⟩ := DataW.trod_int Tryd.underlying3 k4
        have k5 := hel 5 (by omega)
        rw [c5] at k5
        obtain ⟨z5, b5, d5, _⟩ := DataW.trod_int Tryd.underlying3 k5
        have k6 := hel 6 (by omega)
        rw [c5] at k6
        obtain ⟨z6, b6, d6, _⟩ := DataW.trod_int Tryd.underlying3 k6
        have k7 := hel 7 (by omega)
        rw [c5] at k7
        obtain ⟨z7, b7, d7, _⟩ := DataW.trod_int Tryd.underlying3 k7
        have k8 := hel 8 (by omega)
        rw [c5] at k8
        obtain ⟨z8, b8, d8, _⟩ := DataW.trod_int Tryd.underlying3 k8
        have k9 := hel 9 (by omega)
        rw [c5] at k9
        obtain ⟨z9, b9, d9, _⟩ := DataW.trod_int Tryd.underlying3 k9
        rw [hv]
        simp_all
  intro k hk
  match k, hk with
  | 0, _ => exact (by simpa using World.var?_cell etx hvv 0 : w.cell? ⟨0, 0, none⟩ = some (.int .i64 1))
  | 1, _ => exact (by simpa using World.var?_cell etx hvv 1 : w.cell? ⟨0, 1, none⟩ = some (.int .i64 0))
  | 2, _ => exact (by simpa using World.var?_cell etx hvv 2 : w.cell? ⟨0, 2, none⟩ = some (.int .i64 2))
  | 3, _ => exact (by simpa using World.var?_cell etx hvv 3 : w.cell? ⟨0, 3, none⟩ = some (.int .i64 3))
  | 4, _ => exact (by simpa using World.var?_cell etx hvv 4 : w.cell? ⟨0, 4, none⟩ = some (.int .i64 5))
  | 5, _ => exact (by simpa using World.var?_cell etx hvv 5 : w.cell? ⟨0, 5, none⟩ = some (.int .i64 4))
  | 6, _ => exact (by simpa using World.var?_cell etx hvv 6 : w.cell? ⟨0, 6, none⟩ = some (.int .i64 7))
  | 7, _ => exact (by simpa using World.var?_cell etx hvv 7 : w.cell? ⟨0, 7, none⟩ = some (.int .i64 6))
  | 8, _ => exact (by simpa using World.var?_cell etx hvv 8 : w.cell? ⟨0, 8, none⟩ = some (.int .i64 9))
  | 9, _ => exact (by simpa using World.var?_cell etx hvv 9 : w.cell? ⟨0, 9, none⟩ = some (.int .i64 8))
/-- Data laid by the function into a world: read there. -/
theorem met_of_lay {P : Program} {w0 w' : World} {laid : List (String × DataW Unit)} (hh : w'.heap = (w0.layVars P laid).heap) (hf : w0.layFits P laid [] = true) (hi : w0.layIfaces P laid w' = true) : laidMet P laid w' := by
  have e1 : (laid.filter fun x => (laid.map (·.1)).contains x.1) = laid := List.filter_eq_self.2 fun x hx => List.contains_iff_mem.2 (List.mem_map.2 ⟨x, hx, rfl⟩)
  have e2 : (laid.filter fun x => !(laid.map (·.1)).contains x.1) = [] := List.filter_eq_nil_iff.2 fun x hx => by rw [List.contains_iff_mem.2 (List.mem_map.2 ⟨x, hx, rfl⟩)]; simp
  exact laidMet_layVars (w0 := w0) (laid.map (·.1)) [] (by rw [e1]; exact hh) (by rw [e1]; exact hf) (by rw [e1]; exact hi) (by rw [e2]; exact LaidIn.none)
/-- A world that meets the condition: the handle's cell set, the pinned data laid. -/
noncomputable def handleWorld (os : Os) : World :=
  let w0 := World.holding Tryd.prog os ⟨#[], #[], []⟩
  { w0 with heap := w0.heap.modify 1 fun
      | .cells _ t frozen => .cells #[.iface 123 (.agg #[.pointer (some ⟨5, 25, none⟩)])] t frozen
      | o => o }
noncomputable def laidWorld (os : Os) : World := (handleWorld os).layVars Tryd.prog [("stileward/mean.exchanged", Rows.laid_stileward_mean_exchanged)]
theorem plainOf : (([("errors.errorType", Rows.laid_errors_errorType), ("stileward/mean.exchanged", Rows.laid_stileward_mean_exchanged)] : List (String × DataW Unit)).filter fun x => x.2.handleName?.isNone) = [("stileward/mean.exchanged", Rows.laid_stileward_mean_exchanged)] := by kernel_rfl
theorem laidWorld_met (os : Os) (args : Array Value) : laidMetH Tryd.prog [("errors.errorType", Rows.laid_errors_errorType), ("stileward/mean.exchanged", Rows.laid_stileward_mean_exchanged)] ((laidWorld os).forCall (fun _ _ => 0) ⟨#[], args, []⟩).memory :=
  laidMetH_of_parts (by rw [plainOf]; exact (met_of_lay (w0 := handleWorld os) (w' := laidWorld os) rfl (by kernel_rfl) (by kernel_rfl)).of_heap (by simp [World.memory, World.forCall, Input.heap])) (by kernel_rfl)
open Go.Proofs.YtaelgnmklepebaaDoor.Wo Go.Proofs.YtaelgnmklepebaaDoor.Er Go.Proofs.YtaelgnmklepebaaDoor.Fm
theorem says_gives {w : World} (hg : w.cell? ⟨1, 0, none⟩ = some (.iface 123 (.agg #[.pointer (some ⟨5, 25, none⟩)]))) (e : Nat) {E : Value} {K : Int} (hE : errV e = E) (hK : (e : Int) = K) (W : World) (hb : Below w.heap.size w W) :
    Calls Tryd.prog 9 #[E, .int .i64 K] W fun r w' => r = .returned (.bool true) ∧ Below W.heap.size W w' := by
  subst hE
  subst hK
  exact says e hg W hb
theorem form_is {L : Int} {f : List Nd} {n : Nat} (hn : f.length = n) (hf : f.length ≤ 9223372036854775807) {K : Int} (hK : (fchk L f : Int) = K) (A : Option Addr) (c : Nat) (W : World) (hA : NodesAt W W.heap.size A f) :
    Calls Tryd.prog 11 #[.int .i64 L, .slice A n c, .bool false] W fun e w' => e = .returned (.int .i64 K) ∧ Below W.heap.size W w' := by
  subst hn hK
  exact (rform_any L A c f W hA hf).mono fun e w' ⟨h, hw⟩ => ⟨h.out, by rw [hw]; exact Below.refl _ _⟩
theorem perr_good {L : Int} {f : List Nd} (g : FGood L f) : (perr L f = 0 ∧ (pln f).length ≤ 40) ∨ (perr L f = 4 ∧ 40 < (pln f).length) := by
  unfold perr
  rw [if_pos (fchk_iff.2 g)]
  by_cases h : (pln f).length ≤ 40
  · exact .inl ⟨if_pos h, h⟩
  · exact .inr ⟨if_neg h, by omega⟩
theorem refpl_is {L : Int} {f : List Nd} (g : FGood L f) {n : Nat} (hn : f.length = n) {P : List Nd} (hP : pln f = P) (h : P.length ≤ 40) {k : Nat} (hk : P.length = k) (A : Option Addr) (c : Nat) (W : World) (hA : NodesAt W W.heap.size A f) :
    Calls Tryd.prog 16 #[.slice A n c] W fun e w' => Hid (∃ A' c', e = .returned (.tuple #[.slice A' k c', .int .i64 0]) ∧ Hid (NodesAt w' w'.heap.size A' P)) ∧ Below W.heap.size W w' := by
  subst hn hP hk
  refine (refPlain_any A c f W hA g).mono fun e w' ⟨he, hb⟩ => ⟨?_, hb⟩
  rcases he.out with ⟨_, h2⟩ | ⟨h1, _⟩
  · exact h2
  · omega
theorem refpl_no {L : Int} {f : List Nd} (g : FGood L f) {n : Nat} (hn : f.length = n) (h : 40 < (pln f).length) (A : Option Addr) (c : Nat) (W : World) (hA : NodesAt W W.heap.size A f) :
    Calls Tryd.prog 16 #[.slice A n c] W fun e w' => e = .returned (.tuple #[.slice none 0 0, .int .i64 4]) ∧ Below W.heap.size W w' := by
  subst hn
  refine (refPlain_any A c f W hA g).mono fun e w' ⟨he, hb⟩ => ⟨?_, hb⟩
  rcases he.out with ⟨h1, _⟩ | ⟨_, h2⟩
  · omega
  · exact h2
theorem nodes_same {P : List Nd} {k : Nat} (hk : P.length = k) (h : k ≤ 1000) (A B : Option Addr) (c d : Nat) (W : World) (hA : NodesAt W W.heap.size A P) (hB : NodesAt W W.heap.size B P) :
    Calls Tryd.prog 18 #[.slice A k c, .slice B k d] W fun e w' => e = .returned (.bool true) ∧ Below W.heap.size W w' := by
  subst hk
  exact sameNodes_any A B c d P W hA hB (by omega)
theorem nodes_none (W : World) : Calls Tryd.prog 18 #[.slice none 0 0, .slice none 0 0] W fun e w' => e = .returned (.bool true) ∧ Below W.heap.size W w' :=
  nodes_same (P := []) rfl (by decide) none none 0 0 W (NodesAt.nil _ _ _) (NodesAt.nil _ _ _)

set_option maxRecDepth 100000 in
set_option maxHeartbeats 4000000 in
theorem walk (a0 : Int) (A1 : Option Addr) (c1 : Nat) (z1 : List Fm.Nd) (w : World) (l0 : -9223372036854775808 ≤ a0) (h0 : a0 ≤ 9223372036854775807) (v1 : Fm.NodesAt w w.heap.size A1 z1) (m1 : z1.length ≤ c1) (n1 : c1 ≤ 9223372036854775807) (r1 : z1.length ≤ 5864062014634) (hg : w.cell? ⟨1, 0, none⟩ = some (.iface 123 (.agg #[.pointer (some ⟨5, 25, none⟩)]))) (hx : Fm.ExAt w) :
    Calls Tryd.prog 5 #[.int .i64 a0, .slice A1 z1.length c1] w fun e w' => e = .returned (.bool true) ∧ Below w.heap.size w w' := by
  have hL : Small a0 := ⟨l0, h0⟩
  have HN1 := Lib.hid v1
  obtain ⟨n, hn⟩ : ∃ n, z1.length = n := ⟨_, rfl⟩
  have hf63 : z1.length ≤ 9223372036854775807 := by omega
  have HB0 := Lib.hid nodes_none
  have hX := fun W (hb : Below w.heap.size w W) => hx.on hb
  by_cases hf : fchk a0 z1 = 0
  · have HFm := Lib.hid (form_is (L := a0) hn hf63 (K := 0) (by rw [hf]; rfl))
    have g := fchk_iff.1 hf
    rcases perr_good g with ⟨hp, hp40⟩ | ⟨hp, hp40⟩
    · obtain ⟨P, hP⟩ : ∃ P, pln z1 = P := ⟨_, rfl⟩
      obtain ⟨k, hk⟩ : ∃ k, P.length = k := ⟨_, rfl⟩
      rw [hP] at hp40
      have HRp := Lib.hid (refpl_is g hn hP hp40 hk)
      have HPl := Lib.hid (fun A c W (hb : Below w.heap.size w W) => plain_is hL hf63 hn hp hP hk A c W (hX W hb))
      have HE := Lib.hid (fun W (hb : Below w.heap.size w W) => says_gives hg 0 (E := .nilIface) (K := 0) rfl rfl W hb)
      have HNs := Lib.hid (nodes_same hk (by omega))
      rw [hn]
      clear hn hL hf63 hX hf g hp hp40 hP hk hg hx v1 HB0
      go_enter Tryd.func5, Tryd.ntmps5
      go_wp2_with fail
      refine (HFm.out _ _ _ HN1.out).mono ?_
      rintro e w2 ⟨rfl, hb⟩
      have B2 := Lib.hid hb
      replace HN1 := Lib.hid (HN1.out.on hb)
      clear hb HFm
      go_wp2_with fail
      refine (HRp.out _ _ _ HN1.out).mono ?_
      rintro e w3 ⟨he, hb⟩
      obtain ⟨A4, c4, rfl, N4⟩ := he.out
      have B3 := Lib.hid (B2.out.trans (hb.mono B2.out.size))
      replace HN1 := Lib.hid (HN1.out.on hb)
      clear hb he HRp
      go_wp2_with fail
      refine (HPl.out _ _ _ B3.out HN1.out).mono ?_
      rintro e w4 ⟨he, hb⟩
      obtain ⟨A5, c5, rfl, N5⟩ := he.out
      have B4 := Lib.hid (B3.out.trans (hb.mono B3.out.size))
      replace HN1 := Lib.hid (HN1.out.on hb)
      replace N4 := Lib.hid (N4.out.on hb)
      clear hb he HPl
      go_wp2_with fail
      refine (HE.out _ B4.out).mono ?_
      rintro e w5 ⟨rfl, hb⟩
      have B5 := Lib.hid (B4.out.trans (hb.mono B4.out.size))
      replace HN1 := Lib.hid (HN1.out.on hb)
      replace N4 := Lib.hid (N4.out.on hb)
      replace N5 := Lib.hid (N5.out.on hb)
      clear hb HE
      go_wp2_with fail
      refine (HNs.out _ _ _ _ _ N5.out N4.out).mono ?_
      rintro e w6 ⟨rfl, hb⟩
      have B6 := Lib.hid (B5.out.trans (hb.mono B5.out.size))
      replace HN1 := Lib.hid (HN1.out.on hb)
      replace N4 := Lib.hid (N4.out.on hb)
      replace N5 := Lib.hid (N5.out.on hb)
      clear hb HNs
      go_wp2
      go_ret
      exact ⟨rfl, B6.out⟩
    · have HRp := Lib.hid (refpl_no g hn hp40)
      have HPl := Lib.hid (fun A c W (hb : Below w.heap.size w W) => plain_no hL hf63 hn (by rw [hp]; decide) (E := .iface 61 (.int .i64 4)) (by rw [hp]; rfl) A c W (hX W hb))
      have HE := Lib.hid (fun W (hb : Below w.heap.size w W) => says_gives hg 4 (E := .iface 61 (.int .i64 4)) (K := 4) rfl rfl W hb)
      rw [hn]
      clear hn hL hf63 hX hf g hp hp40 hg hx v1
      go_enter Tryd.func5, Tryd.ntmps5
      go_wp2_with fail
      refine (HFm.out _ _ _ HN1.out).mono ?_
      rintro e w2 ⟨rfl, hb⟩
      have B2 := Lib.hid hb
      replace HN1 := Lib.hid (HN1.out.on hb)
      clear hb HFm
      go_wp2_with fail
      refine (HRp.out _ _ _ HN1.out).mono ?_
      rintro e w3 ⟨rfl, hb⟩
      have B3 := Lib.hid (B2.out.trans (hb.mono B2.out.size))
      replace HN1 := Lib.hid (HN1.out.on hb)
      clear hb HRp
      go_wp2_with fail
      refine (HPl.out _ _ _ B3.out HN1.out).mono ?_
      rintro e w4 ⟨rfl, hb⟩
      have B4 := Lib.hid (B3.out.trans (hb.mono B3.out.size))
      replace HN1 := Lib.hid (HN1.out.on hb)
      clear hb HPl
      go_wp2_with fail
      refine (HE.out _ B4.out).mono ?_
      rintro e w5 ⟨rfl, hb⟩
      have B5 := Lib.hid (B4.out.trans (hb.mono B4.out.size))
      replace HN1 := Lib.hid (HN1.out.on hb)
      clear hb HE
      go_wp2_with fail
      refine (HB0.out _).mono ?_
      rintro e w6 ⟨rfl, hb⟩
      have B6 := Lib.hid (B5.out.trans (hb.mono B5.out.size))
      replace HN1 := Lib.hid (HN1.out.on hb)
      clear hb HB0
      go_wp2
      go_ret
      exact ⟨rfl, B6.out⟩
  · have hp : perr a0 z1 = fchk a0 z1 := by unfold perr; rw [if_neg hf]
    have hp0 : perr a0 z1 ≠ 0 := by rw [hp]; exact hf
    obtain ⟨q, hq⟩ : ∃ q : Int, q = (perr a0 z1 : Int) := ⟨_, rfl⟩
    have HFm := Lib.hid (form_is (L := a0) hn hf63 (K := q) (by rw [hq, hp]))
    have HPl := Lib.hid (fun A c W (hb : Below w.heap.size w W) => plain_no hL hf63 hn hp0 (E := .iface 61 (.int .i64 q)) (by rw [errV_pos hp0, hq]) A c W (hX W hb))
    have HE := Lib.hid (fun W (hb : Below w.heap.size w W) => says_gives hg (perr a0 z1) (E := .iface 61 (.int .i64 q)) (K := q) (by rw [errV_pos hp0, hq]) hq.symm W hb)
    have hq0 : (q == 0) = false := beq_eq_false_iff_ne.2 (by omega)
    rw [hn]
    clear hn hL hf63 hX hf hp hp0 hg hx v1 hq
    go_enter Tryd.func5, Tryd.ntmps5
    go_wp2_with fail
    refine (HFm.out _ _ _ HN1.out).mono ?_
    rintro e w2 ⟨rfl, hb⟩
    have B2 := Lib.hid hb
    replace HN1 := Lib.hid (HN1.out.on hb)
    clear hb HFm
    go_wp2_with fail
    refine (HPl.out _ _ _ B2.out HN1.out).mono ?_
    rintro e w3 ⟨rfl, hb⟩
    have B3 := Lib.hid (B2.out.trans (hb.mono B2.out.size))
    replace HN1 := Lib.hid (HN1.out.on hb)
    clear hb HPl
    go_wp2_with fail
    refine (HE.out _ B3.out).mono ?_
    rintro e w4 ⟨rfl, hb⟩
    have B4 := Lib.hid (B3.out.trans (hb.mono B3.out.size))
    replace HN1 := Lib.hid (HN1.out.on hb)
    clear hb HE
    go_wp2_with fail
    refine (HB0.out _).mono ?_
    rintro e w5 ⟨rfl, hb⟩
    have B5 := Lib.hid (B4.out.trans (hb.mono B4.out.size))
    replace HN1 := Lib.hid (HN1.out.on hb)
    clear hb HB0
    go_wp2
    go_ret
    exact ⟨rfl, B5.out⟩


set_option maxRecDepth 100000 in
theorem lifted (os : Os) (started : os.Started) (H : Type) (enc : TypeId × Value → H) :
    ReturnsInHanded {} Tryd.checked os 5 .any (fun w args => (Rows.meanPlainSpec.pre enc Tryd.prog Tryd.f5 Rows.meanPlainRow.domain false w args ∧ laidMetH Tryd.prog [("errors.errorType", Rows.laid_errors_errorType), ("stileward/mean.exchanged", Rows.laid_stileward_mean_exchanged)] w) ∧ sizedMet enc Tryd.prog Tryd.f5 (OpenSpec.ofChange Rows.meanPlainSpec) false w args) (Rows.meanPlainSpec.post enc Tryd.prog Tryd.f5 false true false false) := by
  refine returnsInHanded_of_change_and (C := Tryd.checked) (X := fun w _ => laidMetH Tryd.prog [("errors.errorType", Rows.laid_errors_errorType), ("stileward/mean.exchanged", Rows.laid_stileward_mean_exchanged)] w) (fun _ _ _ hh h => h.of_heap hh) own started (by kernel_rfl) Tryd.func5
    (ChangeSpec.witness_shaped (enc := enc) (C := Tryd.checked) (os := os) (X := fun w _ => laidMetH Tryd.prog [("errors.errorType", Rows.laid_errors_errorType), ("stileward/mean.exchanged", Rows.laid_stileward_mean_exchanged)] w) false (laidWorld os) #[.int .i64 0, .slice none 0 0] 8 (World.layVars_os _ _ _)
      (World.shaped_of_ZipB (by kernel_rfl) (by kernel_rfl)) (by kernel_rfl) (by kernel_rfl) (by kernel_rfl) (laidWorld_met os _)) ?_
  intro W base args ds gs before hval0 hW hcnd hsz0 hL _
  have hval : ∀ (j : Nat) t v, Tryd.f5.params[j]? = some t → args[j]? = some v → Value.okWide Tryd.prog W .any base t v := hval0
  have hsz : (DataW.weightsEach Tryd.prog (Tryd.f5.params.toList ++ Rows.meanPlainSpec.plain.varTypes Tryd.prog) (ds ++ gs)).all (· ≤ reachBytes) = true := hsz0
  have hW' := hW
  obtain ⟨p, q, hA0, hV0, rfl, hfz, hnd⟩ := hW
  have hV : DataW.TrodVars enc Tryd.prog W (fun _ => true) [] gs q := hV0
  have hA : DataW.TrodAll enc Tryd.prog W 0 (fun _ => true) true Tryd.f5.params.toList args.toList ds p := hA0
  rw [Tryd.params5] at hA hval hsz
  obtain ⟨v0, vs0, d0, ds0, p0, q0, hargs, rfl, rfl, h0, rr0⟩ := trodAll_cons hA
  obtain ⟨v1, vs1, d1, ds1, p1, q1, rfl, rfl, rfl, h1, rr1⟩ := trodAll_cons rr0
  obtain ⟨rfl, rfl, rfl⟩ := trodAll_nil rr1
  obtain rfl : args = #[v0, v1] := by cases args; simp_all
  obtain ⟨rfl, rfl⟩ := trodVars_none hV
  have k0 := h0
  have lt0 : ∀ x ∈ p0, x.block < W.heap.size := by obtain ⟨m, hm⟩ := k0; exact DataW.trod_lt m _ _ _ hm
  have k1 := h1
  have lt1 : ∀ x ∈ p1, x.block < W.heap.size := by obtain ⟨m, hm⟩ := k1; exact DataW.trod_lt m _ _ _ hm
  obtain ⟨a0, rfl, rfl, rfl, w0⟩ := open_int Tryd.underlying3 (hval 0 3 v0 rfl rfl) h0
  obtain ⟨l0, hh0⟩ := bounds_i64 w0
  obtain ⟨A1, c1, z1, rfl, m1, n1, x1, r1⟩ : ∃ (A : Option Addr) (c : Nat) (l : List Fm.Nd), v1 = .slice A l.length c ∧ l.length ≤ c ∧ c ≤ 9223372036854775807 ∧ Fm.NodesAt W W.heap.size A l ∧ l.length ≤ 5864062014634 := by
    obtain ⟨A, len, c, rfl⟩ := okWide_slice Tryd.underlying22 (hval 1 22 v1 rfl rfl)
    obtain ⟨fuel, hf⟩ := h1
    obtain ⟨A2, c2, l, hcs, q1, q2, q3, q4⟩ := Fm.open_nodes hf
    simp [Value.cells] at hcs
    obtain ⟨rfl, rfl, rfl⟩ := hcs
    refine ⟨_, _, l, rfl, q1, q2, q3, ?_⟩
    rcases q4 with q4 | ⟨es, sp, hd, hl⟩
    · omega
    · have := sized_slice hsz (j := 1) (t := 22) (e := 29) (elems := es) (spare := sp) rfl (by rw [← hd]; rfl) Tryd.underlying22
      rw [(show Tryd.prog.bytesOf 29 = 24 by kernel_rfl)] at this
      simp only [reachBytes] at this
      omega
  clear hA0 hval0
  refine (walk a0 A1 c1 z1 W l0 hh0 x1 m1 n1 r1 (handle_of_laid hL) (exchanged_of_laid hL)).mono fun e W' ⟨he, bel⟩ => ?_
  subst he
  exact ⟨_, rfl, _, _, _, [], _, [], hW', trodAll_mk1 (shut_bool Tryd.underlying4 _), (trodAll_cons_mk (Below.trod laidOut (by kernel_rfl) (of_decide_eq_true (by kernel_rfl)) k0 bel lt0) (trodAll_cons_mk (Below.trod laidOut (by kernel_rfl) (of_decide_eq_true (by kernel_rfl)) k1 bel lt1) trodAll_mk0)), rfl, bel.frame _, fun h => by cases h⟩

theorem over : Rows.meanPlainRow.holds Tryd.pinned (OpenSpec.ofChange Rows.meanPlainSpec) :=
  OpenClaim.holds_of_wide 5 Tryd.f5 rfl rfl rfl rfl rfl rfl rfl ⟨rfl, rfl, rfl, rfl, rfl⟩ rfl rfl rfl rfl rfl (by kernel_rfl) Tryd.func5 (by kernel_rfl)
    (of_decide_eq_true (by kernel_rfl)) (by unfold Func.isWrapper; rw [if_neg (of_decide_eq_false (by kernel_rfl))]; exact ⟨rfl, rfl⟩)
    (fun os started H enc _ => lifted os started H enc)
theorem proved : Rows.MeanPlainCardSaid :=
  Claim7.holds_tied_plain_at .later [] [.handle, .data] true (true, "9e209e03e2101e425315f778f1ed901e182aeb03f23aa0e81980e2b727e93541") true
    over (fun _ h => by cases h) (by kernel_rfl) (fun _ h => by cases h) meanPlain_row_tie rfl ⟨rfl, rfl⟩ (by kernel_rfl) rfl
    (fun f fn hf hfn => by
      obtain rfl : f = 5 := Option.some.inj ((show Tryd.prog.funcNamed "stileward/stilewardlaw3.MeanPlain" = some 5 by kernel_rfl).symm.trans hf) |>.symm
      obtain rfl : fn = Tryd.f5 := (Option.some.inj (Tryd.func5.symm.trans hfn)).symm
      exact ⟨by kernel_rfl, fun j t ht => by
        rw [Tryd.params5] at ht
        rcases j with _ | _ | j
        · obtain rfl : 3 = t := by simpa using ht
          exact (show Tryd.prog.wantsStandIn 3 = false by kernel_rfl)
        · obtain rfl : 22 = t := by simpa using ht
          exact (show Tryd.prog.wantsStandIn 22 = false by kernel_rfl)
        · simp at ht⟩)
    (by kernel_rfl)
#print axioms proved
end Go.Proofs.YtaelgnmklepebaaDoor.meanPlain
