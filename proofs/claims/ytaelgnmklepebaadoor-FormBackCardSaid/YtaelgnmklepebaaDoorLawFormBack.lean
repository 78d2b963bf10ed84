/-
  The statement FormBackCardSaid of this seat, proved: for every input the law returns true and its arguments read behind the call as before. Conditions: none but the row's own (each argument within the reach; the listed variable as the program lays it, tied by the given tie).
-/
import Derived.Test.YtaelgnmklepebaaDoorRows
import Derived.Test.YtaelgnmklepebaaDoorCards
import Derived.Test.YtaelgnmklepebaaDoorTie
import Derived.SevenTiedAt
import Derived.LaidLaws
import Derived.LaidHandle
import Derived.LaidMore
import Derived.Lay
import Derived.MakeChecks
import Derived.Stop.Joined
import Derived.JoinedOf
import Derived.RowKit
import Derived.RowKitTokens
import Derived.ChangeSame
import Derived.ChangeVars
import Derived.Test.YtaelgnmklepebaaDoorWords
import Derived.WalkKit
import Derived.ProofKit
import Derived.OpenShut
import Derived.ShutString
import Derived.ChangeOld
import Derived.Below
import Derived.SizedLaws
import Derived.Lib.Hide
import Derived.Test.YtaelgnmklepebaaDoorMeanL
import Derived.Test.YtaelgnmklepebaaDoorRead
import Derived.Test.YtaelgnmklepebaaDoorWrites
import Derived.Test.YtaelgnmklepebaaDoorFormB
import Derived.Test.YtaelgnmklepebaaDoorSays
import Derived.Deep.QuietTactic
import Derived.BigQuiet
namespace Go.Proofs.YtaelgnmklepebaaDoor.formBack
open Go.ChangeShapes Go.WideShapes Go.ChangeAt Go.RowKit Go.IntWalk Go.Proofs.YtaelgnmklepebaaDoor.Wd
open Go.ChangeMaps (open_string shut_string)
set_option linter.unusedVariables false

theorem own : ownKnob Tryd.prog.godebug = none := by kernel_rfl
theorem laidOut : laidOutB Tryd.prog = true := by kernel_rfl
theorem et : Tryd.prog.globalNamed "errors.errorType" = some 1 := by kernel_rfl
theorem rt : (Tryd.prog.cutTypes.find? (·.1 == "internal/reflectlite.rtype")).map (·.2) = some 123 := by kernel_rfl
theorem oneRow : ((List.range 175).filter fun t => Tryd.prog.rowNamed t [101, 114, 114, 111, 114]) = [25] := by kernel_rfl
theorem size : Tryd.prog.types.size = 175 := by kernel_rfl
/-- What the condition gives a walk: the variable's one cell. -/
theorem handle_of_laid {w : World} (h : laidMetH Tryd.prog [("unicode/utf8.acceptRanges", Rows.laid_unicode_utf8_acceptRanges), ("errors.errorType", Rows.laid_errors_errorType), ("unicode/utf8.first", Rows.laid_unicode_utf8_first)] w) : w.cell? ⟨1, 0, none⟩ = some (.iface 123 (.agg #[.pointer (some ⟨5, 25, none⟩)])) := by
  have h' : laidMet Tryd.prog [("unicode/utf8.acceptRanges", Rows.laid_unicode_utf8_acceptRanges), ("unicode/utf8.first", Rows.laid_unicode_utf8_first)] w ∧ handlesMet Tryd.prog [("errors.errorType", Rows.laid_errors_errorType)] w := h
  obtain ⟨name, u, ty, e1, e2, e3, e4, e5⟩ := h'.2 _ (List.mem_singleton.2 rfl)
  have en : name = [101, 114, 114, 111, 114] := (Option.some.inj e1).symm
  subst en
  obtain rfl := Option.some.inj (rt.symm.trans e2)
  have hm : ty ∈ (List.range 175).filter fun t => Tryd.prog.rowNamed t [101, 114, 114, 111, 114] := List.mem_filter.2 ⟨List.mem_range.2 (by rw [← size]; exact e3), e4⟩
  rw [oneRow] at hm
  obtain rfl := List.mem_singleton.1 hm
  have hh : typeHandle Tryd.prog 25 = .pointer (some ⟨5, 25, none⟩) := by kernel_rfl
  rw [hh] at e5
  simpa using World.var?_cell et e5 0
/-- Data laid by the function into a world: read there. -/
theorem met_of_lay {P : Program} {w0 w' : World} {laid : List (String × DataW Unit)} (hh : w'.heap = (w0.layVars P laid).heap) (hf : w0.layFits P laid [] = true) (hi : w0.layIfaces P laid w' = true) : laidMet P laid w' := by
  have e1 : (laid.filter fun x => (laid.map (·.1)).contains x.1) = laid := List.filter_eq_self.2 fun x hx => List.contains_iff_mem.2 (List.mem_map.2 ⟨x, hx, rfl⟩)
  have e2 : (laid.filter fun x => !(laid.map (·.1)).contains x.1) = [] := List.filter_eq_nil_iff.2 fun x hx => by rw [List.contains_iff_mem.2 (List.mem_map.2 ⟨x, hx, rfl⟩)]; simp
  exact laidMet_layVars (w0 := w0) (laid.map (·.1)) [] (by rw [e1]; exact hh) (by rw [e1]; exact hf) (by rw [e1]; exact hi) (by rw [e2]; exact LaidIn.none)
/-- A world that meets the condition: the handle's cell set, the pinned data laid. -/
noncomputable def handleWorld (os : Os) : World :=
  let w0 := World.holding Tryd.prog os ⟨#[], #[], []⟩
  { w0 with heap := w0.heap.modify 1 fun
      | .cells _ t frozen => .cells #[.iface 123 (.agg #[.pointer (some ⟨5, 25, none⟩)])] t frozen
      | o => o }
noncomputable def laidWorld (os : Os) : World := (handleWorld os).layVars Tryd.prog [("unicode/utf8.acceptRanges", Rows.laid_unicode_utf8_acceptRanges), ("unicode/utf8.first", Rows.laid_unicode_utf8_first)]
theorem plainOf : (([("unicode/utf8.acceptRanges", Rows.laid_unicode_utf8_acceptRanges), ("errors.errorType", Rows.laid_errors_errorType), ("unicode/utf8.first", Rows.laid_unicode_utf8_first)] : List (String × DataW Unit)).filter fun x => x.2.handleName?.isNone) = [("unicode/utf8.acceptRanges", Rows.laid_unicode_utf8_acceptRanges), ("unicode/utf8.first", Rows.laid_unicode_utf8_first)] := by kernel_rfl
theorem laidWorld_met (os : Os) (args : Array Value) : laidMetH Tryd.prog [("unicode/utf8.acceptRanges", Rows.laid_unicode_utf8_acceptRanges), ("errors.errorType", Rows.laid_errors_errorType), ("unicode/utf8.first", Rows.laid_unicode_utf8_first)] ((laidWorld os).forCall (fun _ _ => 0) ⟨#[], args, []⟩).memory :=
  laidMetH_of_parts (by rw [plainOf]; exact (met_of_lay (w0 := handleWorld os) (w' := laidWorld os) rfl (by kernel_rfl) (by kernel_rfl)).of_heap (by simp [World.memory, World.forCall, Input.heap])) (by kernel_rfl)
open Go.Proofs.YtaelgnmklepebaaDoor.Wo Go.Proofs.YtaelgnmklepebaaDoor.Er Go.Proofs.YtaelgnmklepebaaDoor.Fm
theorem says_gives {w : World} (hg : w.cell? ⟨1, 0, none⟩ = some (.iface 123 (.agg #[.pointer (some ⟨5, 25, none⟩)]))) (e : Nat) {E : Value} {K : Int} (hE : errV e = E) (hK : (e : Int) = K) (W : World) (hb : Below w.heap.size w W) :
    Calls Tryd.prog 9 #[E, .int .i64 K] W fun r w' => r = .returned (.bool true) ∧ Below W.heap.size W w' := by
  subst hE
  subst hK
  exact says e hg W hb
theorem read_gives {L : Int} {s : ByteArray} (hL : Small L) (hs : s.size ≤ 140737488351232) {n : Nat} {f : List Fm.Nd} (hr : Fm.Rd L s.data.toList n f) {E : Value} (hE : errV n = E) (W : World) :
    Calls Tryd.prog 8 #[.int .i64 L, .string s] W fun e w' => Hid (∃ A c, e = .returned (.tuple #[.slice A f.length c, E]) ∧ Hid (Fm.NodesAt w' w'.heap.size A f)) ∧ Below W.heap.size W w' := by
  subst hE
  exact (Fm.read_any L s W hL hs hr).mono fun e w' ⟨h, hb⟩ => by
    obtain ⟨A, c, h1, _, _, h2⟩ := h
    exact ⟨⟨A, c, h1, h2⟩, hb⟩
def fact0 : List Nd := [(2, 1, 0), (6, 0, 0)]
theorem fact0_small : ∀ m ∈ fact0, NdSmall m := by intro m hm; simp [fact0] at hm; rcases hm with rfl | rfl <;> (unfold NdSmall Sml; decide)
theorem fact0_text : str (wtext 2 fact0) = { data := #[88, 91, 48, 93] } ∧ werr 2 fact0 = 0 := ⟨by rfl, by decide⟩
theorem fact_writes (W : World) : Calls Tryd.prog 7 #[.int .i64 2, .slice (some ⟨W.heap.size, 0, none⟩) 2 2] (W.alloc (.cells #[.int .i64 2, .int .i64 1, .int .i64 0, .int .i64 6, .int .i64 0, .int .i64 0] 29)) fun e w' =>
    e = .returned (.tuple #[.string { data := #[88, 91, 48, 93] }, .nilIface]) ∧ Below W.heap.size W w' := by
  have h1 := lit_nodes W fact0 29 fact0_small #[.int .i64 2, .int .i64 1, .int .i64 0, .int .i64 6, .int .i64 0, .int .i64 0] rfl
  refine (write_any 2 _ 2 fact0 _ ⟨by decide, by decide⟩ h1 (by decide)).mono fun e w' ⟨h, hb⟩ => ?_
  refine ⟨?_, (bel_alloc W _).trans (hb.mono (bel_alloc W _).size)⟩
  rw [h.out, fact0_text.1, fact0_text.2]; rfl
theorem write_is {L : Int} (hL : Small L) {f : List Nd} (hf : f.length ≤ 9223372036854775807) {n : Nat} (hn : f.length = n) {s : ByteArray} {E : Value} (hs : str (wtext L f) = s) (hE : errV (werr L f) = E) (A : Option Addr) (c : Nat) (W : World) (hA : NodesAt W W.heap.size A f) :
    Calls Tryd.prog 7 #[.int .i64 L, .slice A n c] W fun e w' => e = .returned (.tuple #[.string s, E]) ∧ Below W.heap.size W w' := by
  subst hn hs hE
  exact (write_any L A c f W hL hA hf).mono fun e w' ⟨h, hb⟩ => ⟨h.out, hb⟩

set_option maxRecDepth 100000 in
set_option maxHeartbeats 4000000 in
theorem walk (a0 : Int) (A1 : Option Addr) (c1 : Nat) (z1 : List Fm.Nd) (A2 : Option Addr) (c2 : Nat) (z2 : List Int) (w : World) (l0 : -9223372036854775808 ≤ a0) (h0 : a0 ≤ 9223372036854775807) (v1 : Fm.NodesAt w w.heap.size A1 z1) (m1 : z1.length ≤ c1) (n1 : c1 ≤ 9223372036854775807) (r1 : z1.length ≤ 5864062014634) (v2 : IntsAt w w.heap.size A2 z2) (r2 : z2.length ≤ 17592186043904) (m2 : z2.length ≤ c2) (hg : w.cell? ⟨1, 0, none⟩ = some (.iface 123 (.agg #[.pointer (some ⟨5, 25, none⟩)]))) :
    Calls Tryd.prog 3 #[.int .i64 a0, .slice A1 z1.length c1, .slice A2 z2.length c2] w fun e w' => e = .returned (.bool true) ∧ Below w.heap.size w w' := by
  have hL : Small a0 := ⟨l0, h0⟩
  have HFt := Lib.hid fact_writes
  have HN1 := Lib.hid v1
  have HZ2 := Lib.hid v2
  obtain ⟨n, hn⟩ : ∃ n, z1.length = n := ⟨_, rfl⟩
  obtain ⟨M, hM⟩ : ∃ M, z2.length = M := ⟨_, rfl⟩
  have hz2 : z2.length ≤ 17592186044416 := by omega
  have hf63 : z1.length ≤ 9223372036854775807 := by omega
  by_cases hf : fchk a0 z1 = 0
  · by_cases hlong : (ftxt z1).length ≤ 300
    · have g := fchk_iff.1 hf
      obtain ⟨e1, e2⟩ := wrote_ok hf hlong
      obtain ⟨T, hT⟩ : ∃ T, T = str (ftxt z1) := ⟨_, rfl⟩
      have hTs : T.size ≤ 140737488351232 := by rw [hT, str_size]; omega
      have hTd : T.data.toList = ftxt z1 := by rw [hT, str_data]
      have HW := Lib.hid (write_is hL hf63 hn (s := T) (E := .nilIface) (by rw [e1, hT]) (by rw [e2]; rfl))
      rcases rd_back g hlong with ⟨_, hr⟩ | ⟨hsz, hr⟩
      · have HR := Lib.hid (fun W => read_gives hL hTs (show Rd a0 T.data.toList 4 [] by rw [hTd]; exact hr) (E := .iface 61 (.int .i64 4)) rfl W)
        have HE := Lib.hid (fun W (hb : Below w.heap.size w W) => says_gives hg 4 (E := .iface 61 (.int .i64 4)) (K := 4) rfl rfl W hb)
        rw [hn, hM]
        clear hn hM hL hf hlong g e1 e2 hT hTs hTd hr hz2 hf63
        go_enter Tryd.func3, Tryd.ntmps3
        go_wp2_with fail
        refine (HFt.out _).mono ?_
        rintro e w2 ⟨rfl, hb⟩
        have B2 := Lib.hid hb
        replace HN1 := Lib.hid (HN1.out.on hb)
        replace HZ2 := Lib.hid (HZ2.out.on hb)
        clear hb HFt
        go_wp2_with fail
        refine (HW.out _ _ _ HN1.out).mono ?_
        rintro e w3 ⟨rfl, hb⟩
        have B3 := Lib.hid (B2.out.trans (hb.mono B2.out.size))
        replace HN1 := Lib.hid (HN1.out.on hb)
        replace HZ2 := Lib.hid (HZ2.out.on hb)
        clear hb HW
        go_wp2_with fail
        refine (HR.out _).mono ?_
        rintro e w4 ⟨he, hb⟩
        obtain ⟨A4, c4, rfl, _⟩ := he.out
        have B4 := Lib.hid (B3.out.trans (hb.mono B3.out.size))
        replace HN1 := Lib.hid (HN1.out.on hb)
        replace HZ2 := Lib.hid (HZ2.out.on hb)
        clear hb he HR
        go_wp2_with fail
        refine (HE.out _ B4.out).mono ?_
        rintro e w5 ⟨rfl, hb⟩
        have B5 := Lib.hid (B4.out.trans (hb.mono B4.out.size))
        replace HN1 := Lib.hid (HN1.out.on hb)
        replace HZ2 := Lib.hid (HZ2.out.on hb)
        clear hb HE
        go_wp2
        go_ret
        exact ⟨rfl, B5.out⟩
      · have ho := root_ok g
        have g2 := flat_fgood g.l1 g.l6 ho hsz
        obtain ⟨G, hG⟩ : ∃ G, G = flat (root z1) [] := ⟨_, rfl⟩
        have hGr : root G = root z1 := by rw [hG]; exact root_flat ho
        have hGt : ftxt G = ftxt z1 := by rw [hG, flat_ftxt ho, ftxt_wr g]
        rw [← hG] at g2 hr
        obtain ⟨k, hk⟩ : ∃ k, G.length = k := ⟨_, rfl⟩
        have hk40 : G.length ≤ 40 := g2.le
        have HR := Lib.hid (fun W => read_gives hL hTs (show Rd a0 T.data.toList 0 G by rw [hTd]; exact hr) (E := .nilIface) rfl W)
        obtain ⟨e3, e4⟩ := wrote_ok (fchk_iff.2 g2) (by rw [hGt]; exact hlong)
        have HW2 := Lib.hid (write_is hL (by omega) hk (s := T) (E := .nilIface) (by rw [e3, hGt, hT]) (by rw [e4]; rfl))
        have hvv : fval G z2 = fval z1 z2 := by rw [fval_root, fval_root, hGr]
        have hTT : (T.data.toList == T.data.toList) = true := beq_self_eq_true _
        rw [hk] at HR
        by_cases hv : verr a0 z1 z2 = 0
        · obtain ⟨b, hb⟩ : ∃ b, b = fval z1 z2 := ⟨_, rfl⟩
          have HH1 := Lib.hid (holds_is hL hf63 hz2 hn hM (.inl ⟨hv, hb, rfl⟩))
          have HH2 := Lib.hid (holds_is hL (by omega) hz2 hk hM (.inl ⟨verr_iff.2 ⟨g2, (verr_iff.1 hv).2⟩, hb.trans hvv.symm, rfl⟩))
          rw [hn, hM]
          clear hn hM hL hf hlong g e1 e2 e3 e4 hT hTs hTd hr hz2 hf63 hk hk40 hG hGr hGt ho g2 hvv hv hb hsz hTT hg
          go_enter Tryd.func3, Tryd.ntmps3
          go_wp2_with fail
          refine (HFt.out _).mono ?_
          rintro e w2 ⟨rfl, hb⟩
          have B2 := Lib.hid hb
          replace HN1 := Lib.hid (HN1.out.on hb)
          replace HZ2 := Lib.hid (HZ2.out.on hb)
          clear hb HFt
          go_wp2_with fail
          refine (HW.out _ _ _ HN1.out).mono ?_
          rintro e w3 ⟨rfl, hb⟩
          have B3 := Lib.hid (B2.out.trans (hb.mono B2.out.size))
          replace HN1 := Lib.hid (HN1.out.on hb)
          replace HZ2 := Lib.hid (HZ2.out.on hb)
          clear hb HW
          go_wp2_with fail
          refine (HR.out _).mono ?_
          rintro e w4 ⟨he, hb⟩
          obtain ⟨A4, c4, rfl, N4⟩ := he.out
          have B4 := Lib.hid (B3.out.trans (hb.mono B3.out.size))
          replace HN1 := Lib.hid (HN1.out.on hb)
          replace HZ2 := Lib.hid (HZ2.out.on hb)
          clear hb he HR
          go_wp2_with fail
          refine (HW2.out _ _ _ N4.out).mono ?_
          rintro e w5 ⟨rfl, hb⟩
          have B5 := Lib.hid (B4.out.trans (hb.mono B4.out.size))
          replace HN1 := Lib.hid (HN1.out.on hb)
          replace HZ2 := Lib.hid (HZ2.out.on hb)
          replace N4 := Lib.hid (N4.out.on hb)
          clear hb HW2
          go_wp2_with fail
          refine (HH1.out _ _ _ _ _ HN1.out HZ2.out).mono ?_
          rintro e w6 ⟨rfl, hb⟩
          have B6 := Lib.hid (B5.out.trans (hb.mono B5.out.size))
          replace HN1 := Lib.hid (HN1.out.on hb)
          replace HZ2 := Lib.hid (HZ2.out.on hb)
          replace N4 := Lib.hid (N4.out.on hb)
          clear hb HH1
          go_wp2_with fail
          refine (HH2.out _ _ _ _ _ N4.out HZ2.out).mono ?_
          rintro e w7 ⟨rfl, hb⟩
          have B7 := Lib.hid (B6.out.trans (hb.mono B6.out.size))
          replace HN1 := Lib.hid (HN1.out.on hb)
          replace HZ2 := Lib.hid (HZ2.out.on hb)
          replace N4 := Lib.hid (N4.out.on hb)
          clear hb HH2
          go_wp2_with fail
          go_quiet (fail)
          go_wp2
          go_ret
          exact ⟨rfl, below_drewN B7.out _⟩
        · have hv2 : verr a0 G z2 ≠ 0 := fun e => hv (verr_iff.2 ⟨g, (verr_iff.1 e).2⟩)
          obtain ⟨q1, hq1⟩ : ∃ q : Int, q = (verr a0 z1 z2 : Int) := ⟨_, rfl⟩
          obtain ⟨q2, hq2⟩ : ∃ q : Int, q = (verr a0 G z2 : Int) := ⟨_, rfl⟩
          have HH1 := Lib.hid (holds_is hL hf63 hz2 hn hM (.inr ⟨hv, rfl, rfl⟩))
          have HH2 := Lib.hid (holds_is hL (by omega) hz2 hk hM (.inr ⟨hv2, rfl, rfl⟩))
          rw [errV_pos hv, ← hq1] at HH1
          rw [errV_pos hv2, ← hq2] at HH2
          rw [hn, hM]
          clear hn hM hL hf hlong g e1 e2 e3 e4 hT hTs hTd hr hz2 hf63 hk hk40 hG hGr hGt ho g2 hvv hv hv2 hq1 hq2 hsz hTT hg
          go_enter Tryd.func3, Tryd.ntmps3
          go_wp2_with fail
          refine (HFt.out _).mono ?_
          rintro e w2 ⟨rfl, hb⟩
          have B2 := Lib.hid hb
          replace HN1 := Lib.hid (HN1.out.on hb)
          replace HZ2 := Lib.hid (HZ2.out.on hb)
          clear hb HFt
          go_wp2_with fail
          refine (HW.out _ _ _ HN1.out).mono ?_
          rintro e w3 ⟨rfl, hb⟩
          have B3 := Lib.hid (B2.out.trans (hb.mono B2.out.size))
          replace HN1 := Lib.hid (HN1.out.on hb)
          replace HZ2 := Lib.hid (HZ2.out.on hb)
          clear hb HW
          go_wp2_with fail
          refine (HR.out _).mono ?_
          rintro e w4 ⟨he, hb⟩
          obtain ⟨A4, c4, rfl, N4⟩ := he.out
          have B4 := Lib.hid (B3.out.trans (hb.mono B3.out.size))
          replace HN1 := Lib.hid (HN1.out.on hb)
          replace HZ2 := Lib.hid (HZ2.out.on hb)
          clear hb he HR
          go_wp2_with fail
          refine (HW2.out _ _ _ N4.out).mono ?_
          rintro e w5 ⟨rfl, hb⟩
          have B5 := Lib.hid (B4.out.trans (hb.mono B4.out.size))
          replace HN1 := Lib.hid (HN1.out.on hb)
          replace HZ2 := Lib.hid (HZ2.out.on hb)
          replace N4 := Lib.hid (N4.out.on hb)
          clear hb HW2
          go_wp2_with fail
          refine (HH1.out _ _ _ _ _ HN1.out HZ2.out).mono ?_
          rintro e w6 ⟨rfl, hb⟩
          have B6 := Lib.hid (B5.out.trans (hb.mono B5.out.size))
          replace HN1 := Lib.hid (HN1.out.on hb)
          replace HZ2 := Lib.hid (HZ2.out.on hb)
          replace N4 := Lib.hid (N4.out.on hb)
          clear hb HH1
          go_wp2_with fail
          refine (HH2.out _ _ _ _ _ N4.out HZ2.out).mono ?_
          rintro e w7 ⟨rfl, hb⟩
          have B7 := Lib.hid (B6.out.trans (hb.mono B6.out.size))
          replace HN1 := Lib.hid (HN1.out.on hb)
          replace HZ2 := Lib.hid (HZ2.out.on hb)
          replace N4 := Lib.hid (N4.out.on hb)
          clear hb HH2
          go_wp2_with fail
          go_quiet (fail)
          go_wp2
          go_ret
          exact ⟨rfl, below_drewN B7.out _⟩
    · obtain ⟨e1, e2⟩ := wrote_long hf (by omega)
      have HW := Lib.hid (write_is hL hf63 hn (s := { data := #[] }) (E := .iface 61 (.int .i64 4)) (by rw [e1]; rfl) (by rw [e2]; rfl))
      rw [hn, hM]
      clear hn hM hL hf hlong e1 e2 hz2 hf63 hg
      go_enter Tryd.func3, Tryd.ntmps3
      go_wp2_with fail
      refine (HFt.out _).mono ?_
      rintro e w2 ⟨rfl, hb⟩
      have B2 := Lib.hid hb
      replace HN1 := Lib.hid (HN1.out.on hb)
      replace HZ2 := Lib.hid (HZ2.out.on hb)
      clear hb HFt
      go_wp2_with fail
      refine (HW.out _ _ _ HN1.out).mono ?_
      rintro e w3 ⟨rfl, hb⟩
      have B3 := Lib.hid (B2.out.trans (hb.mono B2.out.size))
      replace HN1 := Lib.hid (HN1.out.on hb)
      replace HZ2 := Lib.hid (HZ2.out.on hb)
      clear hb HW
      go_wp2
      go_ret
      exact ⟨rfl, B3.out⟩
  · obtain ⟨e1, e2⟩ := wrote_bad hf
    obtain ⟨q, hq⟩ : ∃ q : Int, q = (fchk a0 z1 : Int) := ⟨_, rfl⟩
    have HW := Lib.hid (write_is hL hf63 hn (s := { data := #[] }) (E := .iface 61 (.int .i64 q)) (by rw [e1]; rfl) (by rw [e2, errV_pos hf, hq]))
    rw [hn, hM]
    clear hn hM hL hf e1 e2 hz2 hf63 hq hg
    go_enter Tryd.func3, Tryd.ntmps3
    go_wp2_with fail
    refine (HFt.out _).mono ?_
    rintro e w2 ⟨rfl, hb⟩
    have B2 := Lib.hid hb
    replace HN1 := Lib.hid (HN1.out.on hb)
    replace HZ2 := Lib.hid (HZ2.out.on hb)
    clear hb HFt
    go_wp2_with fail
    refine (HW.out _ _ _ HN1.out).mono ?_
    rintro e w3 ⟨rfl, hb⟩
    have B3 := Lib.hid (B2.out.trans (hb.mono B2.out.size))
    replace HN1 := Lib.hid (HN1.out.on hb)
    replace HZ2 := Lib.hid (HZ2.out.on hb)
    clear hb HW
    go_wp2
    go_ret
    exact ⟨rfl, B3.out⟩


set_option maxRecDepth 100000 in
theorem lifted (os : Os) (started : os.Started) (H : Type) (enc : TypeId × Value → H) :
    ReturnsInHanded {} Tryd.checked os 3 .any (fun w args => (Rows.formBackSpec.pre enc Tryd.prog Tryd.f3 Rows.formBackRow.domain false w args ∧ laidMetH Tryd.prog [("unicode/utf8.acceptRanges", Rows.laid_unicode_utf8_acceptRanges), ("errors.errorType", Rows.laid_errors_errorType), ("unicode/utf8.first", Rows.laid_unicode_utf8_first)] w) ∧ sizedMet enc Tryd.prog Tryd.f3 (OpenSpec.ofChange Rows.formBackSpec) false w args) (Rows.formBackSpec.post enc Tryd.prog Tryd.f3 false true false false) := by
  refine returnsInHanded_of_change_and (C := Tryd.checked) (X := fun w _ => laidMetH Tryd.prog [("unicode/utf8.acceptRanges", Rows.laid_unicode_utf8_acceptRanges), ("errors.errorType", Rows.laid_errors_errorType), ("unicode/utf8.first", Rows.laid_unicode_utf8_first)] w) (fun _ _ _ hh h => h.of_heap hh) own started (by kernel_rfl) Tryd.func3
    (ChangeSpec.witness_shaped (enc := enc) (C := Tryd.checked) (os := os) (X := fun w _ => laidMetH Tryd.prog [("unicode/utf8.acceptRanges", Rows.laid_unicode_utf8_acceptRanges), ("errors.errorType", Rows.laid_errors_errorType), ("unicode/utf8.first", Rows.laid_unicode_utf8_first)] w) false (laidWorld os) #[.int .i64 0, .slice none 0 0, .slice none 0 0] 8 (World.layVars_os _ _ _)
      (World.shaped_of_ZipB (by kernel_rfl) (by kernel_rfl)) (by kernel_rfl) (by kernel_rfl) (by kernel_rfl) (laidWorld_met os _)) ?_
  intro W base args ds gs before hval0 hW hcnd hsz0 hL _
  have hval : ∀ (j : Nat) t v, Tryd.f3.params[j]? = some t → args[j]? = some v → Value.okWide Tryd.prog W .any base t v := hval0
  have hsz : (DataW.weightsEach Tryd.prog (Tryd.f3.params.toList ++ Rows.formBackSpec.plain.varTypes Tryd.prog) (ds ++ gs)).all (· ≤ reachBytes) = true := hsz0
  have hW' := hW
  obtain ⟨p, q, hA0, hV0, rfl, hfz, hnd⟩ := hW
  have hV : DataW.TrodVars enc Tryd.prog W (fun _ => true) [] gs q := hV0
  have hA : DataW.TrodAll enc Tryd.prog W 0 (fun _ => true) true Tryd.f3.params.toList args.toList ds p := hA0
  rw [Tryd.params3] at hA hval hsz
  obtain ⟨v0, vs0, d0, ds0, p0, q0, hargs, rfl, rfl, h0, rr0⟩ := trodAll_cons hA
  obtain ⟨v1, vs1, d1, ds1, p1, q1, rfl, rfl, rfl, h1, rr1⟩ := trodAll_cons rr0
  obtain ⟨v2, vs2, d2, ds2, p2, q2, rfl, rfl, rfl, h2, rr2⟩ := trodAll_cons rr1
  obtain ⟨rfl, rfl, rfl⟩ := trodAll_nil rr2
  obtain rfl : args = #[v0, v1, v2] := by cases args; simp_all
  obtain ⟨rfl, rfl⟩ := trodVars_none hV
  have k0 := h0
  have lt0 : ∀ x ∈ p0, x.block < W.heap.size := by obtain ⟨m, hm⟩ := k0; exact DataW.trod_lt m _ _ _ hm
  have k1 := h1
  have lt1 : ∀ x ∈ p1, x.block < W.heap.size := by obtain ⟨m, hm⟩ := k1; exact DataW.trod_lt m _ _ _ hm
  have k2 := h2
  have lt2 : ∀ x ∈ p2, x.block < W.heap.size := by obtain ⟨m, hm⟩ := k2; exact DataW.trod_lt m _ _ _ hm
  obtain ⟨a0, rfl, rfl, rfl, w0⟩ := open_int Tryd.underlying3 (hval 0 3 v0 rfl rfl) h0
  obtain ⟨l0, hh0⟩ := bounds_i64 w0
  obtain ⟨A1, c1, z1, rfl, m1, n1, x1, r1⟩ : ∃ (A : Option Addr) (c : Nat) (l : List Fm.Nd), v1 = .slice A l.length c ∧ l.length ≤ c ∧ c ≤ 9223372036854775807 ∧ Fm.NodesAt W W.heap.size A l ∧ l.length ≤ 5864062014634 := by
    obtain ⟨A, len, c, rfl⟩ := okWide_slice Tryd.underlying22 (hval 1 22 v1 rfl rfl)
    obtain ⟨fuel, hf⟩ := h1
    obtain ⟨A2, c2, l, hcs, q1, q2, q3, q4⟩ := Fm.open_nodes hf
    simp [Value.cells] at hcs
    obtain ⟨rfl, rfl, rfl⟩ := hcs
    refine ⟨_, _, l, rfl, q1, q2, q3, ?_⟩
    rcases q4 with q4 | ⟨es, sp, hd, hl⟩
    · omega
    · have := sized_slice hsz (j := 1) (t := 22) (e := 29) (elems := es) (spare := sp) rfl (by rw [← hd]; rfl) Tryd.underlying22
      rw [(show Tryd.prog.bytesOf 29 = 24 by kernel_rfl)] at this
      simp only [reachBytes] at this
      omega
  obtain ⟨A2, len2, c2, rfl⟩ := okWide_slice Tryd.underlying23 (hval 2 23 v2 rfl rfl)
  obtain ⟨z2, rfl, x2, r2, m2⟩ : ∃ zs : List Int, len2 = zs.length ∧ IntsAt W W.heap.size A2 zs ∧ zs.length ≤ 17592186043904 ∧ zs.length ≤ c2 := by
    obtain ⟨fuel, hf⟩ := h2
    rcases open_ints Tryd.underlying23 Tryd.underlying3 (by kernel_rfl) hf with ⟨hcs, _⟩ | ⟨x, l, c, zs, hcs, _, hl, hm, hz, hx, hcell, hwz⟩
    · simp [Value.cells] at hcs
      obtain ⟨rfl, rfl, rfl⟩ := hcs
      exact ⟨[], rfl, IntsAt.nil _ _ _, by simp, by simp⟩
    · simp [Value.cells] at hcs
      obtain ⟨rfl, rfl, rfl⟩ := hcs
      have hd := congrArg Prod.fst hx
      simp only at hd
      have := sized_slice hsz (j := 2) (t := 23) (e := 3) rfl (by rw [hd]; rfl) Tryd.underlying23
      rw [(show Tryd.prog.bytesOf 3 = 8 by kernel_rfl)] at this
      simp only [reachBytes, lits, List.length_map, List.length_take, List.length_drop] at this
      have hz' : zs.length = c2 := by simpa using hz
      exact ⟨zs.take len2, by rw [List.length_take]; omega, intsAt_of_open hcell hwz len2, by rw [List.length_take]; omega, by rw [List.length_take]; omega⟩
  clear hA0 hval0
  refine (walk a0 A1 c1 z1 A2 c2 z2 W l0 hh0 x1 m1 n1 r1 x2 r2 m2 (handle_of_laid hL)).mono fun e W' ⟨he, bel⟩ => ?_
  subst he
  exact ⟨_, rfl, _, _, _, [], _, [], hW', trodAll_mk1 (shut_bool Tryd.underlying4 _), (trodAll_cons_mk (Below.trod laidOut (by kernel_rfl) (of_decide_eq_true (by kernel_rfl)) k0 bel lt0) (trodAll_cons_mk (Below.trod laidOut (by kernel_rfl) (of_decide_eq_true (by kernel_rfl)) k1 bel lt1) (trodAll_cons_mk (Below.trod laidOut (by kernel_rfl) (of_decide_eq_true (by kernel_rfl)) k2 bel lt2) trodAll_mk0))), rfl, bel.frame _, fun h => by cases h⟩

theorem over : Rows.formBackRow.holds Tryd.pinned (OpenSpec.ofChange Rows.formBackSpec) :=
  OpenClaim.holds_of_wide 3 Tryd.f3 rfl rfl rfl rfl rfl rfl rfl ⟨rfl, rfl, rfl, rfl, rfl⟩ rfl rfl rfl rfl rfl (by kernel_rfl) Tryd.func3 (by kernel_rfl)
    (of_decide_eq_true (by kernel_rfl)) (by unfold Func.isWrapper; rw [if_neg (of_decide_eq_false (by kernel_rfl))]; exact ⟨rfl, rfl⟩)
    (fun os started H enc _ => lifted os started H enc)
theorem proved : Rows.FormBackCardSaid :=
  Claim7.holds_tied_plain_at .later [] [.data, .handle, .pinned] true (true, "9e209e03e2101e425315f778f1ed901e182aeb03f23aa0e81980e2b727e93541") true
    over (fun _ h => by cases h) (by kernel_rfl) (fun _ h => by cases h) formBack_row_tie rfl ⟨rfl, rfl⟩ (by kernel_rfl) rfl
    (fun f fn hf hfn => by
      obtain rfl : f = 3 := Option.some.inj ((show Tryd.prog.funcNamed "stileward/stilewardlaw3.FormBack" = some 3 by kernel_rfl).symm.trans hf) |>.symm
      obtain rfl : fn = Tryd.f3 := (Option.some.inj (Tryd.func3.symm.trans hfn)).symm
      exact ⟨by kernel_rfl, fun j t ht => by
        rw [Tryd.params3] at ht
        rcases j with _ | _ | _ | j
        · obtain rfl : 3 = t := by simpa using ht
          exact (show Tryd.prog.wantsStandIn 3 = false by kernel_rfl)
        · obtain rfl : 22 = t := by simpa using ht
          exact (show Tryd.prog.wantsStandIn 22 = false by kernel_rfl)
        · obtain rfl : 23 = t := by simpa using ht
          exact (show Tryd.prog.wantsStandIn 23 = false by kernel_rfl)
        · simp at ht⟩)
    (by kernel_rfl)
#print axioms proved
end Go.Proofs.YtaelgnmklepebaaDoor.formBack
