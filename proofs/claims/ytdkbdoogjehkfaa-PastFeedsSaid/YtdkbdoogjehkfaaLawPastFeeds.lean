/-
  The statement PastFeedsSaid of this seat, proved: for every input the law returns true and its arguments read behind the call as before. Conditions: none but the row's own (each argument within the reach).
-/
import Derived.Test.YtdkbdoogjehkfaaRows
import Derived.Test.YtdkbdoogjehkfaaWords
import Derived.WalkKit
import Derived.ProofKit
import Derived.OpenShut
import Derived.ShutString
import Derived.ChangeOld
import Derived.Below
import Derived.SizedLaws
import Derived.Lib.Hide
import Derived.Test.YtdkbdoogjehkfaaPastW
namespace Go.Proofs.Ytdkbdoogjehkfaa.pastFeeds
open Go.ChangeShapes Go.WideShapes Go.ChangeAt Go.RowKit Go.IntWalk Go.Proofs.Ytdkbdoogjehkfaa.Wd
open Go.ChangeMaps (open_string shut_string)
set_option linter.unusedVariables false

theorem own : ownKnob Try.prog.godebug = none := by kernel_rfl
theorem laidOut : laidOutB Try.prog = true := by kernel_rfl
open Go.Proofs.Ytdkbdoogjehkfaa.Wo Go.Proofs.Ytdkbdoogjehkfaa.Fm
theorem ints_take {w : World} {B : Nat} {A : Option Addr} {z : List Int} (h : IntsAt w B A z) (i : Nat) : IntsAt w B A (z.take i) := by
  refine ⟨fun k u hk => h.1 k u ?_, fun x hx => h.2 x (List.mem_of_mem_take hx)⟩
  rw [← hk, List.getElem?_map, List.getElem?_map, List.getElem?_take]
  split
  · rfl
  · rename_i h2
    rw [List.getElem?_map, List.getElem?_take, if_neg h2] at hk
    cases hk
def pfactF : List Nd := [(2, 2, 0), (10, 0, 0)]
theorem pfact_good : FGood 2 (mrF pfactF) := fchk_iff.1 (by decide)
theorem pfact_yes : fval (mrF pfactF) [1, 0].reverse = true := by decide
theorem pfact_small : ∀ m ∈ pfactF, NdSmall m := by intro m hm; simp [pfactF] at hm; rcases hm with rfl | rfl <;> (unfold NdSmall Sml; decide)
def pfactW (w : World) : World := (w.alloc (.cells #[.int .i64 2, .int .i64 2, .int .i64 0, .int .i64 10, .int .i64 0, .int .i64 0] 29)).alloc (.cells #[.int .i64 1, .int .i64 0] 3)
theorem pfact_holds (w : World) :
    Calls Try.prog 5 #[.int .i64 2, .slice (some ⟨w.heap.size, 0, none⟩) 2 2, .slice (some ⟨w.heap.size + 1, 0, none⟩) 2 2] (pfactW w) fun e w' => e = .returned (.tuple #[.bool true, .nilIface]) ∧ Below w.heap.size w w' := by
  have hB : Below w.heap.size w (pfactW w) := (bel_alloc _ _).alloc (by simp) _
  have h1 := lit_nodes w pfactF 29 pfact_small #[.int .i64 2, .int .i64 2, .int .i64 0, .int .i64 10, .int .i64 0, .int .i64 0] rfl
  have h2 := lit_ints (w.alloc (.cells #[.int .i64 2, .int .i64 2, .int .i64 0, .int .i64 10, .int .i64 0, .int .i64 0] 29)) [1, 0] 3 (fun x hx => by simp at hx; unfold Small; omega) #[.int .i64 1, .int .i64 0] rfl
  have h3 := h1.on (bel_alloc _ (.cells #[.int .i64 1, .int .i64 0] 3))
  have hs : (w.alloc (.cells #[.int .i64 2, .int .i64 2, .int .i64 0, .int .i64 10, .int .i64 0, .int .i64 0] 29)).heap.size = w.heap.size + 1 := by simp
  rw [hs] at h2
  refine (pholds_yes (L := 2) (f := pfactF) (z := [1, 0]) ⟨by decide, by decide⟩ rfl rfl pfact_good ⟨by decide, by simp, fun x hx => by simp at hx; omega⟩ _ 2 (by decide) _ 2 _ h3 h2).mono fun e w' ⟨h4, h5⟩ => ⟨by rw [h4, pfact_yes], ?_⟩
  exact hB.trans (h5.mono hB.size)
theorem vec_last {f : List Nd} (z : List Int) {n : Nat} (hn : f.length = n + 1) : (vec f z)[n]? = some (fval f z) := by
  have := vec_at f z (k := n) (by omega)
  rw [this]; unfold fval; rw [hn]; rfl
theorem vec_feed {L : Int} {f : List Nd} (g : FGood L (mrF f)) {z : List Int} {i : Nat} (h : i < z.length) : nxt (mrF f) (vec (mrF f) (z.take i).reverse) z[i] = vec (mrF f) (z.take (i + 1)).reverse := by
  rw [vec_next g.nd, take_rev h, List.getD_eq_getElem?_getD, List.getElem?_eq_getElem h]; rfl

set_option maxRecDepth 100000 in
set_option maxHeartbeats 4000000 in
theorem walk (a0 : Int) (A1 : Option Addr) (c1 : Nat) (z1 : List Fm.Nd) (A2 : Option Addr) (c2 : Nat) (z2 : List Int) (w : World) (l0 : -9223372036854775808 ≤ a0) (h0 : a0 ≤ 9223372036854775807) (v1 : Fm.NodesAt w w.heap.size A1 z1) (m1 : z1.length ≤ c1) (n1 : c1 ≤ 9223372036854775807) (r1 : z1.length ≤ 5864062014634) (v2 : IntsAt w w.heap.size A2 z2) (r2 : z2.length ≤ 17592186043904) (m2 : z2.length ≤ c2) :
    Calls Try.prog 3 #[.int .i64 a0, .slice A1 z1.length c1, .slice A2 z2.length c2] w fun e w' => e = .returned (.bool true) ∧ Below w.heap.size w w' := by
  have hL : Small a0 := ⟨l0, h0⟩
  have HK := Lib.hid pfact_holds
  unfold pfactW at HK
  have hz2 : z2.length ≤ 17592186044416 := by omega
  have hf63 : z1.length ≤ 9223372036854775807 := by omega
  have HA := Lib.hid (fun wr (h : Below w.heap.size w wr) => v1.on h)
  have HZ := Lib.hid (fun wr (h : Below w.heap.size w wr) => v2.on h)
  obtain ⟨n, hn⟩ : ∃ n, z1.length = n := ⟨_, rfl⟩
  have hc1 : n ≤ c1 := by omega
  by_cases hf : fchk a0 (mrF z1) = 0
  · have g := fchk_iff.1 hf
    have HS := Lib.hid (fun W hA => pstart_yes hL hn g A1 c1 hc1 W hA)
    obtain ⟨M, hM⟩ : ∃ M, z2.length = M := ⟨_, rfl⟩
    have hmc : M ≤ c2 := by omega
    have HM := Lib.hid hM
    have HG := Lib.hid g
    have HL := Lib.hid hL
    have HN := Lib.hid hn
    have hM62 : M ≤ 17592186044416 := by omega
    obtain ⟨k, rfl⟩ : ∃ k, n = k + 1 := ⟨n - 1, by have := g.ne; rw [mrF_length] at this; omega⟩
    have hk40 : k ≤ 39 := by have := g.le; rw [mrF_length] at this; omega
    have hkk : ((((k + 1 : Nat) : Int)) != (((k + 1 : Nat) : Int))) = false := bne_self_eq_false _
    have hk0 : ((k : Int) + 1 == 0) = false := beq_eq_false_iff_ne.2 (by omega)
    rw [hn, hM]
    clear hn hM hL hf g hz2 hf63 v1 v2
    go_enter Try.func3, Try.ntmps3
    go_wp2_with fail
    refine (HK.out _).mono ?_
    rintro e w1 ⟨rfl, hb1⟩
    have HS2 := Lib.hid (HS.out w1 (HA.out w1 hb1))
    have B1 := Lib.hid hb1
    clear HK HS hb1
    go_wp2_with fail
    refine HS2.out.mono ?_
    rintro e w2 he
    obtain ⟨g0, rfl, ho⟩ := he.out
    have HR0 : Hid (∃ g', Value.slice (some ⟨g0, 0, none⟩) (k + 1) (k + 1) = .slice (some ⟨g', 0, none⟩) (k + 1) (k + 1) ∧ Df.BoolsAt w2 w2.heap.size (some ⟨g', 0, none⟩) (vec (mrF z1) (z2.take 0).reverse) ∧ (∀ c ∈ z2.take 0, 0 ≤ c ∧ c < a0) ∧ Below w.heap.size w w2) := by
      obtain ⟨A5, c5, hv5, _, _, hB5⟩ := Df.own_bools ho (fv := .slice (some ⟨g0, 0, none⟩) (k + 1) (k + 1)) (bs := vec (mrF z1) []) (by simp)
      simp only [Value.slice.injEq] at hv5
      rw [← hv5.1] at hB5
      exact ⟨g0, rfl, hB5, by simp, B1.out.trans (ho.below.mono B1.out.size)⟩
    clear HS2 he ho B1
    generalize Value.slice (some ⟨g0, 0, none⟩) (k + 1) (k + 1) = v0 at *
    go_wp2
    go_loopw [9, 11] (fun v s wr => ∃ (i : Nat), i ≤ M ∧ i ≤ 81 ∧ s = .int .i64 i ∧ Hid (∃ g', v = .slice (some ⟨g', 0, none⟩) (k + 1) (k + 1) ∧ Df.BoolsAt wr wr.heap.size (some ⟨g', 0, none⟩) (vec (mrF z1) (z2.take i).reverse) ∧ (∀ c ∈ z2.take i, 0 ≤ c ∧ c < a0) ∧ Below w.heap.size w wr)) (fun _ s _ => M + 1 - (intOf s).toNat)
    case atStart => exact ⟨0, by omega, by omega, rfl, HR0⟩
    case round =>
      clear HR0
      obtain ⟨i, hi, hi81, rfl, HR⟩ := hrel
      obtain ⟨g', rfl, hV, hlet, hbw⟩ := HR.out
      by_cases h80 : i ≤ 80
      · have hil : (z2.take i).length = i := by rw [List.length_take]; have := HM.out; omega
        have hfi : Fine a0 (z2.take i) := ⟨⟨HG.out.l1, HG.out.l6⟩, by omega, hlet⟩
        have HH := Lib.hid (fun W hA hB => pholds_yes HL.out HN.out hil HG.out hfi A1 c1 hc1 A2 c2 W hA hB)
        have HH2 := Lib.hid (HH.out wr (HA.out wr hbw) (ints_take (HZ.out wr hbw) i))
        have HVl := Lib.hid (vec_last (f := mrF z1) (z2.take i).reverse (n := k) (by rw [mrF_length]; exact HN.out))
        have HVV := Lib.hid hV
        have HBW := Lib.hid hbw
        have HLt := Lib.hid hlet
        have e1 : (i : Int) ≤ (M : Int) := by omega
        have e2 : i ≤ c2 := by omega
        clear HR hV hlet hbw hil hfi HH
        generalize fval (mrF z1) (z2.take i).reverse = b at *
        have hbb : (b != b) = false := bne_self_eq_false _
        go_wp2_with fail
        refine HH2.out.mono ?_
        rintro e w3 ⟨rfl, hb3⟩
        obtain ⟨ad, e4, hadb, hc4, _⟩ := (HVV.out.on hb3).at_ HVl.out
        have HV3 := Lib.hid (HVV.out.on hb3)
        have B3 := Lib.hid (HBW.out.trans (hb3.mono HBW.out.size))
        clear HH2 hb3 HVV HBW
        simp only [Option.some.injEq] at e4
        subst e4
        have e5 : ((⟨g', 0, none⟩ : Addr).add k) = ⟨g', k, none⟩ := by simp [Addr.add]; intro h; exact h.symm
        rw [e5] at hc4
        clear e5 HVl
        by_cases hiM : i = M
        · subst hiM
          go_wp2
          go_ret
          exact ⟨rfl, B3.out⟩
        · have hlt : i < z2.length := by have := HM.out; omega
          have HVf := Lib.hid (vec_feed HG.out hlt)
          have HTk : Hid (z2.take (i + 1) = z2.take i ++ [z2[i]]) := (List.take_append_getElem hlt).symm
          obtain ⟨adz, rfl, hadzb, hcz, _, _⟩ := (HZ.out w3 B3.out).at_ i hlt
          have q1 : ((i : Int) == (M : Int)) = false := beq_eq_false_iff_ne.2 (by omega)
          have q2 : (i : Int) < (M : Int) := by omega
          by_cases hr : 0 ≤ z2[i] ∧ z2[i] < a0
          · have HF := Lib.hid (pfeed_yes HL.out HN.out HG.out (T := vec (mrF z1) (z2.take i).reverse) (by rw [vec_length, mrF_length]; exact HN.out) hr.1 hr.2 A1 c1 hc1 (some ⟨g', 0, none⟩) (k + 1) w3 (HA.out w3 B3.out) HV3.out)
            rw [HVf.out] at HF
            have HLt2 : Hid (∀ c ∈ z2.take (i + 1), 0 ≤ c ∧ c < a0) := fun c hc => by
              rw [HTk.out] at hc
              rcases List.mem_append.1 hc with h | h
              · exact HLt.out c h
              · simp at h; rw [h]; exact hr
            clear HVf HTk HV3 HLt hr
            generalize z2[i] = a at *
            go_wp2_with fail
            refine HF.out.mono ?_
            rintro e w4 he
            obtain ⟨g4, rfl, ho⟩ := he.out
            have HR4 : Hid (∃ g', Value.slice (some ⟨g4, 0, none⟩) (k + 1) (k + 1) = .slice (some ⟨g', 0, none⟩) (k + 1) (k + 1) ∧ Df.BoolsAt w4 w4.heap.size (some ⟨g', 0, none⟩) (vec (mrF z1) (z2.take (i + 1)).reverse) ∧ (∀ c ∈ z2.take (i + 1), 0 ≤ c ∧ c < a0) ∧ Below w.heap.size w w4) := by
              obtain ⟨A5, c5, hv5, _, _, hB5⟩ := Df.own_bools ho (fv := .slice (some ⟨g4, 0, none⟩) (k + 1) (k + 1)) (bs := vec (mrF z1) (z2.take (i + 1)).reverse) (by simp)
              simp only [Value.slice.injEq] at hv5
              rw [← hv5.1] at hB5
              exact ⟨g4, rfl, hB5, HLt2.out, B3.out.trans (ho.below.mono B3.out.size)⟩
            clear HF he ho B3 HLt2
            generalize Value.slice (some ⟨g4, 0, none⟩) (k + 1) (k + 1) = v4 at *
            go_wp2
            go_roundw
            case rel => exact ⟨i + 1, by omega, by omega, by go_num, HR4⟩
            case measure => simp [intOf]; omega
          · have he : feedErr a0 z1 (k + 1) z2[i] = 1 := by unfold feedErr; rw [if_pos (fchk_iff.2 HG.out), if_neg (by have := HN.out; omega), if_pos (by omega)]
            have HF := Lib.hid (pfeed_no (k := k + 1) (a := z2[i]) HL.out (by have := HN.out; omega) HN.out (by rw [he]; decide) A1 c1 hc1 (some ⟨g', 0, none⟩) (k + 1) w3 (HA.out w3 B3.out))
            rw [he] at HF
            have hr2 : z2[i] < 0 ∨ a0 ≤ z2[i] := by omega
            have HZ4 := Lib.hid (fun wr (h : Below w3.heap.size w3 wr) => (HZ.out wr (B3.out.trans (h.mono B3.out.size))).at_ i hlt)
            clear HVf HTk HV3 HLt hr he
            generalize z2[i] = a at *
            go_wp2_with fail
            refine HF.out.mono ?_
            rintro e w4 ⟨rfl, hb4⟩
            obtain ⟨ad6, e6, _, hc6, _, _⟩ := HZ4.out w4 hb4
            obtain rfl := Option.some.inj e6
            have B4 := Lib.hid (B3.out.trans (hb4.mono B3.out.size))
            clear HF hb4 B3 HZ4 e6 hcz
            simp only [errV]
            rcases hr2 with hr2 | hr2
            · go_wp2
              go_ret
              exact ⟨rfl, B4.out⟩
            · by_cases ha0 : a < 0
              · clear hr2
                go_wp2
                go_ret
                exact ⟨rfl, B4.out⟩
              · go_wp2
                go_ret
                exact ⟨rfl, B4.out⟩
      · have HBW := Lib.hid hbw
        clear HR hV hlet hbw
        go_wp2
        go_ret
        exact ⟨rfl, HBW.out⟩
  · have HS := Lib.hid (fun W hA => pstart_no hL hf63 hn hf A1 c1 hc1 W hA)
    rw [errV_pos hf] at HS
    generalize (fchk a0 (mrF z1) : Int) = q at *
    rw [hn]
    clear hn hL hf hz2 hf63 v1 v2 HZ
    go_enter Try.func3, Try.ntmps3
    go_wp2_with fail
    refine (HK.out _).mono ?_
    rintro e w1 ⟨rfl, hb1⟩
    have HS2 := Lib.hid (HS.out w1 (HA.out w1 hb1))
    have B1 := Lib.hid hb1
    clear HK HS hb1 HA
    go_wp2_with fail
    refine HS2.out.mono ?_
    rintro e w2 ⟨rfl, hb2⟩
    have B2 := Lib.hid (B1.out.trans (hb2.mono B1.out.size))
    clear HS2 hb2 B1
    go_wp2
    go_ret
    exact ⟨rfl, B2.out⟩


set_option maxRecDepth 100000 in
theorem lifted (os : Os) (started : os.Started) (H : Type) (enc : TypeId × Value → H) :
    ReturnsInHanded {} Try.checked os 3 .any (Rows.pastFeedsSpec.pre6 enc Try.prog Try.f3 Rows.pastFeedsRow.domain false) (Rows.pastFeedsSpec.post enc Try.prog Try.f3 false true false false) := by
  refine returnsInHanded_of_change_sized (C := Try.checked) own started (by kernel_rfl) Try.func3
    (ChangeSpec.witness6 (enc := enc) (C := Try.checked) false ⟨#[], #[.int .i64 0, .slice none 0 0, .slice none 0 0], []⟩ 8 (by kernel_rfl) (by kernel_rfl) (by kernel_rfl) (by kernel_rfl)) ?_
  intro W base args ds gs before hval0 hW hcnd hsz0 _
  have hval : ∀ (j : Nat) t v, Try.f3.params[j]? = some t → args[j]? = some v → Value.okWide Try.prog W .any base t v := hval0
  have hsz : (DataW.weightsEach Try.prog (Try.f3.params.toList ++ Rows.pastFeedsSpec.plain.varTypes Try.prog) (ds ++ gs)).all (· ≤ reachBytes) = true := hsz0
  have hW' := hW
  obtain ⟨p, q, hA0, hV0, rfl, hfz, hnd⟩ := hW
  have hV : DataW.TrodVars enc Try.prog W (fun _ => true) [] gs q := hV0
  have hA : DataW.TrodAll enc Try.prog W 0 (fun _ => true) true Try.f3.params.toList args.toList ds p := hA0
  rw [Try.params3] at hA hval hsz
  obtain ⟨v0, vs0, d0, ds0, p0, q0, hargs, rfl, rfl, h0, rr0⟩ := trodAll_cons hA
  obtain ⟨v1, vs1, d1, ds1, p1, q1, rfl, rfl, rfl, h1, rr1⟩ := trodAll_cons rr0
  obtain ⟨v2, vs2, d2, ds2, p2, q2, rfl, rfl, rfl, h2, rr2⟩ := trodAll_cons rr1
  obtain ⟨rfl, rfl, rfl⟩ := trodAll_nil rr2
  obtain rfl : args = #[v0, v1, v2] := by cases args; simp_all
  obtain ⟨rfl, rfl⟩ := trodVars_none hV
  have k0 := h0
  have lt0 : ∀ x ∈ p0, x.block < W.heap.size := by obtain ⟨m, hm⟩ := k0; exact DataW.trod_lt m _ _ _ hm
  have k1 := h1
  have lt1 : ∀ x ∈ p1, x.block < W.heap.size := by obtain ⟨m, hm⟩ := k1; exact DataW.trod_lt m _ _ _ hm
  have k2 := h2
  have lt2 : ∀ x ∈ p2, x.block < W.heap.size := by obtain ⟨m, hm⟩ := k2; exact DataW.trod_lt m _ _ _ hm
  obtain ⟨a0, rfl, rfl, rfl, w0⟩ := open_int Try.underlying3 (hval 0 3 v0 rfl rfl) h0
  obtain ⟨l0, hh0⟩ := bounds_i64 w0
  obtain ⟨A1, c1, z1, rfl, m1, n1, x1, r1⟩ : ∃ (A : Option Addr) (c : Nat) (l : List Fm.Nd), v1 = .slice A l.length c ∧ l.length ≤ c ∧ c ≤ 9223372036854775807 ∧ Fm.NodesAt W W.heap.size A l ∧ l.length ≤ 5864062014634 := by
    obtain ⟨A, len, c, rfl⟩ := okWide_slice Try.underlying22 (hval 1 22 v1 rfl rfl)
    obtain ⟨fuel, hf⟩ := h1
    obtain ⟨A2, c2, l, hcs, q1, q2, q3, q4⟩ := Fm.open_nodes hf
    simp [Value.cells] at hcs
    obtain ⟨rfl, rfl, rfl⟩ := hcs
    refine ⟨_, _, l, rfl, q1, q2, q3, ?_⟩
    rcases q4 with q4 | ⟨es, sp, hd, hl⟩
    · omega
    · have := sized_slice hsz (j := 1) (t := 22) (e := 29) (elems := es) (spare := sp) rfl (by rw [← hd]; rfl) Try.underlying22
      rw [(show Try.prog.bytesOf 29 = 24 by kernel_rfl)] at this
      simp only [reachBytes] at this
      omega
  obtain ⟨A2, len2, c2, rfl⟩ := okWide_slice Try.underlying23 (hval 2 23 v2 rfl rfl)
  obtain ⟨z2, rfl, x2, r2, m2⟩ : ∃ zs : List Int, len2 = zs.length ∧ IntsAt W W.heap.size A2 zs ∧ zs.length ≤ 17592186043904 ∧ zs.length ≤ c2 := by
    obtain ⟨fuel, hf⟩ := h2
    rcases open_ints Try.underlying23 Try.underlying3 (by kernel_rfl) hf with ⟨hcs, _⟩ | ⟨x, l, c, zs, hcs, _, hl, hm, hz, hx, hcell, hwz⟩
    · simp [Value.cells] at hcs
      obtain ⟨rfl, rfl, rfl⟩ := hcs
      exact ⟨[], rfl, IntsAt.nil _ _ _, by simp, by simp⟩
    · simp [Value.cells] at hcs
      obtain ⟨rfl, rfl, rfl⟩ := hcs
      have hd := congrArg Prod.fst hx
      simp only at hd
      have := sized_slice hsz (j := 2) (t := 23) (e := 3) rfl (by rw [hd]; rfl) Try.underlying23
      rw [(show Try.prog.bytesOf 3 = 8 by kernel_rfl)] at this
      simp only [reachBytes, lits, List.length_map, List.length_take, List.length_drop] at this
      have hz' : zs.length = c2 := by simpa using hz
      exact ⟨zs.take len2, by rw [List.length_take]; omega, intsAt_of_open hcell hwz len2, by rw [List.length_take]; omega, by rw [List.length_take]; omega⟩
  clear hA0 hval0
  refine (walk a0 A1 c1 z1 A2 c2 z2 W l0 hh0 x1 m1 n1 r1 x2 r2 m2).mono fun e W' ⟨he, bel⟩ => ?_
  subst he
  exact ⟨_, rfl, _, _, _, [], _, [], hW', trodAll_mk1 (shut_bool Try.underlying4 _), (trodAll_cons_mk (Below.trod laidOut (by kernel_rfl) (of_decide_eq_true (by kernel_rfl)) k0 bel lt0) (trodAll_cons_mk (Below.trod laidOut (by kernel_rfl) (of_decide_eq_true (by kernel_rfl)) k1 bel lt1) (trodAll_cons_mk (Below.trod laidOut (by kernel_rfl) (of_decide_eq_true (by kernel_rfl)) k2 bel lt2) trodAll_mk0))), rfl, bel.frame _, fun h => by cases h⟩

theorem over : Rows.pastFeedsRow.holds Try.pinned (OpenSpec.ofChange Rows.pastFeedsSpec) :=
  OpenClaim.holds_of_wide 3 Try.f3 rfl rfl rfl rfl rfl rfl rfl ⟨rfl, rfl, rfl, rfl, rfl⟩ rfl rfl rfl rfl rfl (by kernel_rfl) Try.func3 (by kernel_rfl)
    (of_decide_eq_true (by kernel_rfl)) (by unfold Func.isWrapper; rw [if_neg (of_decide_eq_false (by kernel_rfl))]; exact ⟨rfl, rfl⟩)
    (fun os started H enc _ => lifted os started H enc)
theorem proved : Rows.PastFeedsSaid := over
#print axioms proved
end Go.Proofs.Ytdkbdoogjehkfaa.pastFeeds
