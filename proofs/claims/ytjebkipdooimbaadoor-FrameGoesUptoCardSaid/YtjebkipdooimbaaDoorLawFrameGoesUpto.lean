/-
  The statement FrameGoesUptoCardSaid of this seat, proved: for every input the law returns true and its arguments read behind the call as before. Conditions: none but the row's own (each argument within the reach; the listed variable as the program lays it, tied by the given tie).
-/
import Derived.Test.YtjebkipdooimbaaDoorRows
import Derived.Test.YtjebkipdooimbaaDoorCards
import Derived.Test.YtjebkipdooimbaaDoorTie
import Derived.SevenTiedAt
import Derived.LaidLaws
import Derived.LaidHandle
import Derived.Stop.Joined
import Derived.JoinedOf
import Derived.RowKit
import Derived.RowKitTokens
import Derived.ChangeSame
import Derived.ChangeVars
import Derived.JoinedCond
import Derived.Deep.CondSized
import Derived.Deep.DeepHandedRow
import Derived.Test.YtjebkipdooimbaaDoorWords
import Derived.WalkKit
import Derived.ProofKit
import Derived.OpenShut
import Derived.ShutString
import Derived.ChangeOld
import Derived.Below
import Derived.SizedLaws
import Derived.Lib.Hide
import Derived.Test.YtjebkipdooimbaaDoorFact
import Derived.Test.YtjebkipdooimbaaDoorAppTexts
import Derived.Deep.QuietTactic
import Derived.BigQuiet
namespace Go.Proofs.YtjebkipdooimbaaDoor.frameGoes
open Go.ChangeShapes Go.WideShapes Go.ChangeAt Go.RowKit Go.IntWalk Go.Proofs.YtjebkipdooimbaaDoor.Wd
open Go.ChangeMaps (open_string shut_string)
set_option linter.unusedVariables false

/-- What the bound gives: a text's length. -/
theorem le_of_bulk {H : Type} {l : List (DataW H)} (h : Rows.uptoBulkAll l ≤ 1048576) : ∀ (i : Nat) {bs : List UInt8}, l[i]? = some (.lit (.string bs)) → bs.length ≤ 1048576 := by
  have hp : ∀ (l : List (DataW H)) (i : Nat) (bs : List UInt8), l[i]? = some (.lit (.string bs)) → bs.length ≤ Rows.uptoBulkAll l := by
    intro l
    induction l with
    | nil => intro i bs h; simp at h
    | cons x r ih =>
      intro i bs hx
      simp only [Rows.uptoBulkAll]
      rcases i with _ | i
      · simp only [List.getElem?_cons_zero, Option.some.injEq] at hx
        subst hx
        simp only [Rows.uptoBulk]
        omega
      · have := ih i bs (by simpa using hx)
        omega
  exact fun i bs hx => Nat.le_trans (hp l i bs hx) h
theorem own : ownKnob Tryd.prog.godebug = none := by kernel_rfl
theorem laidOut : laidOutB Tryd.prog = true := by kernel_rfl
theorem et : Tryd.prog.globalNamed "errors.errorType" = some 0 := by kernel_rfl
theorem rt : (Tryd.prog.cutTypes.find? (·.1 == "internal/reflectlite.rtype")).map (·.2) = some 78 := by kernel_rfl
theorem oneRow : ((List.range 122).filter fun t => Tryd.prog.rowNamed t [101, 114, 114, 111, 114]) = [23] := by kernel_rfl
theorem size : Tryd.prog.types.size = 122 := by kernel_rfl
/-- What the condition gives a walk: the variable's one cell. -/
theorem handle_of_laid {w : World} (h : laidMetH Tryd.prog [("errors.errorType", Rows.laid_errors_errorType)] w) : w.cell? ⟨0, 0, none⟩ = some (.iface 78 (.agg #[.pointer (some ⟨1, 23, none⟩)])) := by
  have h' : laidMet Tryd.prog [] w ∧ handlesMet Tryd.prog [("errors.errorType", Rows.laid_errors_errorType)] w := h
  obtain ⟨name, u, ty, e1, e2, e3, e4, e5⟩ := h'.2 _ (List.mem_singleton.2 rfl)
  have en : name = [101, 114, 114, 111, 114] := (Option.some.inj e1).symm
  subst en
  obtain rfl := Option.some.inj (rt.symm.trans e2)
  have hm : ty ∈ (List.range 122).filter fun t => Tryd.prog.rowNamed t [101, 114, 114, 111, 114] := List.mem_filter.2 ⟨List.mem_range.2 (by rw [← size]; exact e3), e4⟩
  rw [oneRow] at hm
  obtain rfl := List.mem_singleton.1 hm
  have hh : typeHandle Tryd.prog 23 = .pointer (some ⟨1, 23, none⟩) := by kernel_rfl
  rw [hh] at e5
  simpa using World.var?_cell et e5 0
/-- A world that meets the condition. -/
noncomputable def laidWorld (os : Os) : World :=
  let w0 := World.holding Tryd.prog os ⟨#[], #[], []⟩
  { w0 with heap := w0.heap.modify 0 fun
      | .cells _ t frozen => .cells #[.iface 78 (.agg #[.pointer (some ⟨1, 23, none⟩)])] t frozen
      | o => o }
theorem laidWorld_met (os : Os) (args : Array Value) : laidMetH Tryd.prog [("errors.errorType", Rows.laid_errors_errorType)] ((laidWorld os).forCall (fun _ _ => 0) ⟨#[], args, []⟩).memory :=
  laidMetH_of_parts (laidMet_nil _ _) (by kernel_rfl)
open Go.PlainAid Go.Proofs.YtjebkipdooimbaaDoor.Sm Go.Proofs.YtjebkipdooimbaaDoor.Pk Go.Proofs.YtjebkipdooimbaaDoor.Fr Go.Proofs.YtjebkipdooimbaaDoor.Er

set_option maxRecDepth 100000 in
set_option maxHeartbeats 4000000 in
theorem walk (s0 : ByteArray) (s1 : ByteArray) (w : World) (r0 : s0.size ≤ 140737488351232) (q0 : s0.size ≤ 1048576) (r1 : s1.size ≤ 140737488351232) (q1 : s1.size ≤ 1048576) (hg : w.cell? ⟨0, 0, none⟩ = some (.iface 78 (.agg #[.pointer (some ⟨1, 23, none⟩)]))) :
    Calls Tryd.prog 7 #[.string s0, .string s1] w fun e w' => e = .returned (.bool true) ∧ Below w.heap.size w w' := by
  have HP := Lib.hid (fact_ok w hg)
  clear hg
  rcases hx : scan s0.data.toList with ⟨l, u, e⟩
  have hst : (s0 ++ s1).size = s0.size + s1.size := ByteArray.size_append
  have hd : (s0 ++ s1).data.toList = s0.data.toList ++ s1.data.toList := by rw [ByteArray.data_append, Array.toList_append]
  have hle := scan_le hx
  rw [data_len] at hle
  obtain ⟨k1, k2, k3, k4⟩ := hle
  have H1 := Lib.hid (fun W => scan_full s0 W (by unfold maxLen; omega) l u e hx (by omega))
  have hnil : errV 0 = .nilIface := rfl
  rcases e with _ | e0
  · obtain ⟨g1, g2⟩ := scan_goes s1.data.toList hx
    have hdr : (s0.extract u s0.size ++ s1).data.toList = s0.data.toList.drop u ++ s1.data.toList := by rw [ByteArray.data_append, Array.toList_append, ext_back]
    rcases hy : scan (s0.data.toList.drop u ++ s1.data.toList) with ⟨m, v, f⟩
    rw [hy] at g2
    simp only at g2
    have hds : (s0.extract u s0.size).size = s0.size - u := by rw [ByteArray.size_extract]; omega
    have hle2 := scan_le hy
    rw [← hdr, data_len, ByteArray.size_append, hds] at hle2
    obtain ⟨p1, p2, p3, p4⟩ := hle2
    have H2 := Lib.hid (fun W => scan_full (s0 ++ s1) W (by rw [hst]; unfold maxLen; omega) (l ++ m) (u + v) f (by rw [hd]; exact g2) (by rw [List.length_append]; omega))
    have H3 := Lib.hid (fun W => scan_full (s0.extract u s0.size ++ s1) W (by rw [ByteArray.size_append, hds]; unfold maxLen; omega) m v f (by rw [hdr]; exact hy) (by omega))
    have hlm : (l ++ m).length = l.length + m.length := List.length_append
    have hz : ((u + v : Nat) : Int) = (u : Int) + (v : Int) := by omega
    have ha1 : (str ([] : List UInt8)).size = 0 := rfl
    clear hx hy g2 hdr hd k3 p3 ha1
    have hgo : ∀ (E : Value), (E = .nilIface ∨ ∃ x, E = .iface 48 x) → errV f = E →
        Calls Tryd.prog 7 #[.string s0, .string s1] w fun e w' => e = .returned (.bool true) ∧ Below w.heap.size w w' := by
      intro E hE hfE
      rw [hfE] at H2 H3
      rw [hnil] at H1
      clear hfE hnil p4 k4 g1
      rw [hlm, hz] at H2
      clear hz hlm
      rcases hE with rfl | ⟨x, rfl⟩
      · go_enter Tryd.func7, Tryd.ntmps7
        go_wp2_with fail
        refine HP.out.mono ?_
        rintro e w1 ⟨rfl, hb⟩
        have HB1 := Lib.hid hb
        clear hb HP
        go_wp2_with fail
        refine (H1.out _).mono ?_
        rintro e w2 ⟨A1, c1, rfl, ht, hn1, hb⟩
        have HT1 := Lib.hid ht
        have HN1 := Lib.hid hn1
        have HB2 := Lib.hid (HB1.out.trans (hb.mono HB1.out.size))
        clear hb ht hn1 H1 HB1
        go_wp2_with fail
        refine (H2.out _).mono ?_
        rintro e w3 ⟨A2, c2, rfl, ht, hn2, hb⟩
        have HT1' := Lib.hid (HT1.out.on hb)
        have HT2 := Lib.hid ht
        have HB3 := Lib.hid (HB2.out.trans (hb.mono HB2.out.size))
        clear hb ht hn2 H2 HB2 HT1
        go_wp2_with fail
        refine (H3.out _).mono ?_
        rintro e w4 ⟨A3, c3, rfl, ht, hn3, hb⟩
        have HT1 := Lib.hid (HT1'.out.on hb)
        have HT2' := Lib.hid (HT2.out.on hb)
        have HT3 := Lib.hid ht
        have HN3 := Lib.hid hn3
        have HB4 := Lib.hid (HB3.out.trans (hb.mono HB3.out.size))
        clear hb ht hn3 H3 HB3 HT1' HT2
        have HO := txts_nil w4
        go_wp2_with (at_builtin; refine app_texts rfl _ _ rfl rfl HO rfl HT1.out HN1.out ?c1 ?_)
        case c1 => simp; omega
        intro v1 w5 HO1
        have HV := Lib.hid HO1
        clear HO
        go_wp2_with (at_builtin; refine app_texts rfl _ _ rfl rfl HO1 rfl (txts_keep HO1 rfl HT3.out) HN3.out ?c1 ?_)
        case c1 => omega
        intro v2 w6 HO2
        obtain ⟨A6, c6, rfl, ht6⟩ := txts_at HO2
        have HB6 := Lib.hid (HB4.out.trans (HO2.2.1.mono HB4.out.size))
        have HQ := Lib.hid (fun n => texts_drawn (c := c2) (d := c6) rfl (txts_keep HO2 rfl HT2'.out) ht6 (by rw [List.length_append]; omega) n)
        have hlm : (l ++ m).length = l.length + m.length := List.length_append
        rw [hlm] at HQ
        simp only [hlm]
        clear hlm HO1 HO2 ht6 HB4 HT1 HT2' HT3 HN1 HN3 HV
        go_wp2
        have hw1 : IntKind.i64.wrap ((u : Int) + (v : Int)) = (u : Int) + (v : Int) := IntWalk.i64_in _ ⟨by omega, by omega⟩
        go_quiet ((go_at_call 15; exact HQ.out _))
        go_wp2
        go_ret
        exact ⟨rfl, below_drewN HB6.out _⟩
      · go_enter Tryd.func7, Tryd.ntmps7
        go_wp2_with fail
        refine HP.out.mono ?_
        rintro e w1 ⟨rfl, hb⟩
        have HB1 := Lib.hid hb
        clear hb HP
        go_wp2_with fail
        refine (H1.out _).mono ?_
        rintro e w2 ⟨A1, c1, rfl, ht, hn1, hb⟩
        have HT1 := Lib.hid ht
        have HN1 := Lib.hid hn1
        have HB2 := Lib.hid (HB1.out.trans (hb.mono HB1.out.size))
        clear hb ht hn1 H1 HB1
        go_wp2_with fail
        refine (H2.out _).mono ?_
        rintro e w3 ⟨A2, c2, rfl, ht, hn2, hb⟩
        have HT1' := Lib.hid (HT1.out.on hb)
        have HT2 := Lib.hid ht
        have HB3 := Lib.hid (HB2.out.trans (hb.mono HB2.out.size))
        clear hb ht hn2 H2 HB2 HT1
        go_wp2_with fail
        refine (H3.out _).mono ?_
        rintro e w4 ⟨A3, c3, rfl, ht, hn3, hb⟩
        have HT1 := Lib.hid (HT1'.out.on hb)
        have HT2' := Lib.hid (HT2.out.on hb)
        have HT3 := Lib.hid ht
        have HN3 := Lib.hid hn3
        have HB4 := Lib.hid (HB3.out.trans (hb.mono HB3.out.size))
        clear hb ht hn3 H3 HB3 HT1' HT2
        have HO := txts_nil w4
        go_wp2_with (at_builtin; refine app_texts rfl _ _ rfl rfl HO rfl HT1.out HN1.out ?c1 ?_)
        case c1 => simp; omega
        intro v1 w5 HO1
        have HV := Lib.hid HO1
        clear HO
        go_wp2_with (at_builtin; refine app_texts rfl _ _ rfl rfl HO1 rfl (txts_keep HO1 rfl HT3.out) HN3.out ?c1 ?_)
        case c1 => omega
        intro v2 w6 HO2
        obtain ⟨A6, c6, rfl, ht6⟩ := txts_at HO2
        have HB6 := Lib.hid (HB4.out.trans (HO2.2.1.mono HB4.out.size))
        have HQ := Lib.hid (fun n => texts_drawn (c := c2) (d := c6) rfl (txts_keep HO2 rfl HT2'.out) ht6 (by rw [List.length_append]; omega) n)
        have hlm : (l ++ m).length = l.length + m.length := List.length_append
        rw [hlm] at HQ
        simp only [hlm]
        clear hlm HO1 HO2 ht6 HB4 HT1 HT2' HT3 HN1 HN3 HV
        go_wp2
        have hw1 : IntKind.i64.wrap ((u : Int) + (v : Int)) = (u : Int) + (v : Int) := IntWalk.i64_in _ ⟨by omega, by omega⟩
        go_quiet ((go_at_call 15; exact HQ.out _))
        go_wp2
        go_ret
        exact ⟨rfl, below_drewN HB6.out _⟩
    exact hgo (errV f) (by rcases f with _ | f; exact .inl rfl; exact .inr ⟨_, rfl⟩) rfl
  · obtain ⟨g1, g2⟩ := scan_stays s1.data.toList hx (by omega)
    have H2 := Lib.hid (fun W => scan_full (s0 ++ s1) W (by rw [hst]; unfold maxLen; omega) l u (e0 + 1) (by rw [hd]; exact g2) (by omega))
    have hE : errV (e0 + 1) = .iface 48 (.int .i64 ((e0 + 1 : Nat) : Int)) := rfl
    rw [hE] at H1 H2
    clear hx g2 hd k3 k4 hE hnil g1
    generalize (Value.int .i64 ((e0 + 1 : Nat) : Int)) = x at *
    go_enter Tryd.func7, Tryd.ntmps7
    go_wp2_with fail
    refine HP.out.mono ?_
    rintro e w1 ⟨rfl, hb⟩
    have HB1 := Lib.hid hb
    clear hb HP
    go_wp2_with fail
    refine (H1.out _).mono ?_
    rintro e w2 ⟨A1, c1, rfl, ht, hn1, hb⟩
    have HT1 := Lib.hid ht
    have HB2 := Lib.hid (HB1.out.trans (hb.mono HB1.out.size))
    clear hb ht hn1 H1 HB1
    go_wp2_with fail
    refine (H2.out _).mono ?_
    rintro e w3 ⟨A2, c2, rfl, ht, hn2, hb⟩
    have HQ := Lib.hid (texts_same A2 A1 c2 c1 l l w3 rfl ht (HT1.out.on hb) (by omega))
    have HB3 := Lib.hid (HB2.out.trans (hb.mono HB2.out.size))
    clear hb ht hn2 H2 HB2 HT1
    go_wp2_with fail
    refine HQ.out.mono ?_
    rintro e w4 ⟨rfl, hb⟩
    have HB4 := Lib.hid (HB3.out.trans (hb.mono HB3.out.size))
    clear hb HQ HB3
    go_wp2
    go_ret
    exact ⟨rfl, HB4.out⟩


theorem reads (os : Os) {H : Type} (enc : TypeId × Value → H) : ∃ places, DataW.whole enc Tryd.prog ((laidWorld os).forCall (fun _ _ => 0) ⟨#[], #[.string ByteArray.empty, .string ByteArray.empty], []⟩).memory Tryd.f7.params.toList Rows.frameGoesSpec.vars false #[.string ByteArray.empty, .string ByteArray.empty].toList 8 = some ([.lit (.string []), .lit (.string [])], [], places) := ⟨[], by kernel_rfl⟩
set_option maxRecDepth 100000 in
theorem lifted (os : Os) (started : os.Started) (H : Type) (enc : TypeId × Value → H) (FF : Stop.Interp) :
    ReturnsInHanded {} Tryd.checked os 7 .any ((Rows.OpenSpec.upto Rows.frameGoesSpec).preRow enc Tryd.prog Tryd.f7 Rows.frameGoesUptoRow.domain false Rows.frameGoesUptoRow.laid) (((Rows.OpenSpec.upto Rows.frameGoesSpec).at FF).post enc Tryd.prog Tryd.f7 false true false false) := by
  obtain ⟨places, hx⟩ := reads os enc
  refine returnsInHanded_of_row (C := Tryd.checked) (s := Rows.OpenSpec.upto Rows.frameGoesSpec) own started (by kernel_rfl) Tryd.func7
    (witness_row_at (enc := enc) (C := Tryd.checked) false (laidWorld os) #[.string ByteArray.empty, .string ByteArray.empty] rfl (by kernel_rfl) (by kernel_rfl) (by kernel_rfl)
      (OpenSpec.preRow_of_cond 8 hx (by kernel_rfl) (fun k hk => by cases hk; kernel_rfl) (by kernel_rfl) (laidWorld_met os _))) ?_
  intro W base args ds gs before hval0 hW hcnd hk1 hsz0 hL _ _
  have hk0 := hk1 _ rfl
  have hval : ∀ (j : Nat) t v, Tryd.f7.params[j]? = some t → args[j]? = some v → Value.okWide Tryd.prog W .any base t v := hval0
  have hsz : (DataW.weightsEach Tryd.prog (Tryd.f7.params.toList ++ Rows.frameGoesSpec.plain.varTypes Tryd.prog) (ds ++ gs)).all (· ≤ reachBytes) = true := hsz0
  have hW' := hW
  obtain ⟨p, q, hA0, hV0, rfl, hfz, hnd⟩ := hW
  have hV : DataW.TrodVars enc Tryd.prog W (fun _ => true) [] gs q := hV0
  have hA : DataW.TrodAll enc Tryd.prog W 0 (fun _ => true) true Tryd.f7.params.toList args.toList ds p := hA0
  rw [Tryd.params7] at hA hval hsz
  obtain ⟨v0, vs0, d0, ds0, p0, q0, hargs, rfl, rfl, h0, rr0⟩ := trodAll_cons hA
  obtain ⟨v1, vs1, d1, ds1, p1, q1, rfl, rfl, rfl, h1, rr1⟩ := trodAll_cons rr0
  obtain ⟨rfl, rfl, rfl⟩ := trodAll_nil rr1
  obtain rfl : args = #[v0, v1] := by cases args; simp_all
  obtain ⟨rfl, rfl⟩ := trodVars_none hV
  have k0 := h0
  have lt0 : ∀ x ∈ p0, x.block < W.heap.size := by obtain ⟨m, hm⟩ := k0; exact DataW.trod_lt m _ _ _ hm
  have k1 := h1
  have lt1 : ∀ x ∈ p1, x.block < W.heap.size := by obtain ⟨m, hm⟩ := k1; exact DataW.trod_lt m _ _ _ hm
  obtain ⟨s0, rfl, rfl, rfl, w0⟩ := open_string Tryd.underlying9 (hval 0 9 v0 rfl rfl) h0
  have r0 : s0.size ≤ 140737488351232 := by
    have := sized_string hsz (j := 0) (t := 9) rfl rfl
    simp only [reachBytes] at this
    simpa using this
  obtain ⟨s1, rfl, rfl, rfl, w1⟩ := open_string Tryd.underlying9 (hval 1 9 v1 rfl rfl) h1
  have r1 : s1.size ≤ 140737488351232 := by
    have := sized_string hsz (j := 1) (t := 9) rfl rfl
    simp only [reachBytes] at this
    simpa using this
  clear hA0 hval0
  have hu : Rows.uptoBulkAll _ ≤ 1048576 := of_decide_eq_true hk0
  refine (walk s0 s1 W r0 (by rw [← data_len]; exact le_of_bulk hu 0 rfl) r1 (by rw [← data_len]; exact le_of_bulk hu 1 rfl) (handle_of_laid hL)).mono fun e W' ⟨he, bel⟩ => ?_
  subst he
  exact ⟨_, rfl, _, _, _, [], _, [], hW', trodAll_mk1 (shut_bool Tryd.underlying4 _), (trodAll_cons_mk (Below.trod laidOut (by kernel_rfl) (of_decide_eq_true (by kernel_rfl)) k0 bel lt0) (trodAll_cons_mk (Below.trod laidOut (by kernel_rfl) (of_decide_eq_true (by kernel_rfl)) k1 bel lt1) trodAll_mk0)), rfl, bel.frame _, fun h => by cases h⟩

theorem over : Rows.frameGoesUptoRow.holds Tryd.pinned (Rows.OpenSpec.upto Rows.frameGoesSpec) :=
  OpenClaim.holds_of_cond 7 Tryd.f7 rfl rfl rfl rfl rfl rfl rfl ⟨rfl, rfl, rfl, rfl, rfl⟩ rfl rfl rfl rfl rfl (by kernel_rfl) Tryd.func7 (by kernel_rfl)
    (of_decide_eq_true (by kernel_rfl)) (by unfold Func.isWrapper; rw [if_neg (of_decide_eq_false (by kernel_rfl))]; exact ⟨rfl, rfl⟩)
    (fun os started H enc _ FF => by rw [OpenClaim.pre_eq_preRow]; exact lifted os started H enc FF)
theorem proved : Rows.FrameGoesUptoCardSaid :=
  Claim7.holds_tied_plain_at .later [] [.handle] true (true, "e710c5158a0d88577b98c8901c15fa95774bac2ff64dc546779ee59af722ced0") true
    over (fun _ h => by cases h) (by kernel_rfl) (fun _ h => by cases h) frameGoesUpto_row_tie rfl ⟨rfl, rfl⟩ (by kernel_rfl) rfl
    (fun f fn hf hfn => by
      obtain rfl : f = 7 := Option.some.inj ((show Tryd.prog.funcNamed "stileward/stilewardlaw1.FrameGoes" = some 7 by kernel_rfl).symm.trans hf) |>.symm
      obtain rfl : fn = Tryd.f7 := (Option.some.inj (Tryd.func7.symm.trans hfn)).symm
      exact ⟨by kernel_rfl, fun j t ht => by
        rw [Tryd.params7] at ht
        rcases j with _ | _ | j
        · obtain rfl : 9 = t := by simpa using ht
          exact (show Tryd.prog.wantsStandIn 9 = false by kernel_rfl)
        · obtain rfl : 9 = t := by simpa using ht
          exact (show Tryd.prog.wantsStandIn 9 = false by kernel_rfl)
        · simp at ht⟩)
    (by kernel_rfl)
#print axioms proved
end Go.Proofs.YtjebkipdooimbaaDoor.frameGoes
