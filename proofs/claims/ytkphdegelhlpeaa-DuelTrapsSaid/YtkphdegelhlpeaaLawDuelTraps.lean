/-
  The statement DuelTrapsSaid of this seat, proved: for every input the law returns true and its arguments read behind the call as before. Conditions: none but the row's own (each argument within the reach).
-/
import Derived.Test.YtkphdegelhlpeaaRows
import Derived.Test.YtkphdegelhlpeaaWords
import Derived.WalkKit
import Derived.ProofKit
import Derived.OpenShut
import Derived.ShutString
import Derived.ChangeOld
import Derived.Below
import Derived.SizedLaws
import Derived.Lib.Hide
import Derived.Test.YtkphdegelhlpeaaDuelS
import Derived.Test.YtkphdegelhlpeaaBoolO
namespace Go.Proofs.Ytkphdegelhlpeaa.duelTraps
open Go.ChangeShapes Go.WideShapes Go.ChangeAt Go.RowKit Go.IntWalk Go.Proofs.Ytkphdegelhlpeaa.Wd
open Go.ChangeMaps (open_string shut_string)
set_option linter.unusedVariables false

theorem own : ownKnob Try.prog.godebug = none := by kernel_rfl
theorem laidOut : laidOutB Try.prog = true := by kernel_rfl
open Go.Proofs.Ytkphdegelhlpeaa.Wo Go.Proofs.Ytkphdegelhlpeaa.Df Go.Proofs.Ytkphdegelhlpeaa.Rc Go.Proofs.Ytkphdegelhlpeaa.Du
def setF (z : List Bool) (s : Nat) : Bool := z[s]?.getD false
/-- What holds of a place of a trap. -/
def TrapAt (a : Ar) (S : Nat → Bool) (p : Nat) : Prop := goalA a p = false ∧ (ownA a p = 0 → ∀ q ∈ succs a p, S q = true) ∧ (ownA a p = 1 → ∃ q, q ∈ succs a p ∧ S q = true)
theorem trap_next {a : Ar} {S : Nat → Bool} {p : Nat} (h : ∀ s, s < p → S s = true → TrapAt a S s) (h2 : S p = true → TrapAt a S p) : ∀ s, s < p + 1 → S s = true → TrapAt a S s := fun s hs hS => by
  by_cases e : s = p
  · subst e; exact h2 hS
  · exact h s (by omega) hS
theorem trap0 {a : Ar} {S : Nat → Bool} {p : Nat} (g : Du.Good a) (hp : p < a.next.length) (hg : goalA a p = false) (ho : ownA a p = 0) (h : ∀ x ∈ rowA a p, S x.toNat = true) : TrapAt a S p :=
  ⟨hg, fun _ q hq => by have := h _ ((mem_succs g hp).1 hq); simpa using this, fun h1 => by rw [ho] at h1; omega⟩
theorem trap1 {a : Ar} {S : Nat → Bool} {p : Nat} (hg : goalA a p = false) (ho : ownA a p = 1) (h : ((rowA a p).any fun x => S x.toNat) = true) : TrapAt a S p :=
  ⟨hg, fun h1 => by rw [ho] at h1; omega, fun _ => by
    obtain ⟨x, hx, hs⟩ := List.any_eq_true.1 h
    exact ⟨x.toNat, List.mem_map.2 ⟨x, hx, rfl⟩, hs⟩⟩

set_option maxRecDepth 100000 in
set_option maxHeartbeats 4000000 in
theorem walk (v0 : Value) (g0 : Du.Ar) (A1 : Option Addr) (c1 : Nat) (z1 : List Bool) (w : World) (h0 : Du.ArAt w w.heap.size v0 g0) (v1 : Df.BoolsAt w w.heap.size A1 z1) (m1 : z1.length ≤ c1) (n1 : c1 ≤ 9223372036854775807) :
    Calls Try.prog 7 #[v0, .slice A1 z1.length c1] w fun e w' => e = .returned (.bool true) ∧ Below w.heap.size w w' := by
  have HF := Lib.hid duelFact_any
  by_cases g1 : achk g0 = 0
  · have gd := achk_iff.1 g1
    obtain ⟨ao, co, aa, c, af, cf, n, u, rfl, hu, hb0, hn1, hn4, hA⟩ := arG_new w h0 gd
    have B := Lib.hid hb0
    have W0 := Lib.hid hu
    have VA := Lib.hid hA
    have HRk := fun W (h : ArG W w.heap.size ao co aa c af cf g0 n) => ranks_gives h.at_ gd
    have HMv := fun W (h : ArG W w.heap.size ao co aa c af cf g0 n) => moves_gives h.at_ gd
    have hlen := hA.len
    rw [hlen] at HRk HMv
    have HRk := Lib.hid HRk
    have HMv := Lib.hid HMv
    have HG := Lib.hid gd
    have HLen := Lib.hid hlen
    have Z := Lib.hid (v1.on hb0)
    clear hA hb0 hu h0 hlen g1 gd v1
    go_enter Try.func7, Try.ntmps7
    go_wp2_with fail
    rw [← W0.out]
    clear W0
    refine (HF.out _).mono ?_
    rintro e u1 ⟨rfl, hb⟩
    have Z := Lib.hid (Z.out.on hb)
    have VA := Lib.hid (VA.out.on hb)
    have B := Lib.hid (B.out.trans (hb.mono B.out.size))
    clear hb HF
    have c0 := VA.out.box.c0
    have c1 := VA.out.box.c1
    have c2 := VA.out.box.c2
    go_wp2_with fail
    refine (HRk.out _ VA.out).mono ?_
    rintro e u2 ⟨grk, rfl, hi, hb⟩
    have rk := Lib.hid hi.out
    have Z := Lib.hid (Z.out.on hb)
    have VA := Lib.hid (VA.out.on hb)
    have B := Lib.hid (B.out.trans (hb.mono B.out.size))
    clear hb hi c0 c1 c2 HRk
    clear HMv
    have c1 := VA.out.box.c1
    by_cases hls : z1.length = n
    case neg =>
      have e0 := int_ne' (show (z1.length : Int) ≠ (n : Int) by omega)
      clear Z m1
      generalize z1.length = k at *
      go_wp2
      go_ret
      exact ⟨rfl, B.out⟩
    obtain ⟨sa, hAs⟩ : ∃ sa, A1 = some sa := by
      obtain ⟨sa, hAs, _⟩ := Z.out.at_ (List.getElem?_eq_getElem (show 0 < z1.length by omega))
      exact ⟨sa, hAs⟩
    subst hAs
    have HSc : Hid (∀ s, s < n → u2.cell? (sa.add s) = some (.bool (setF z1 s))) := fun s hs => by
      obtain ⟨ad, e, _, hc, _⟩ := Z.out.at_ (k := s) (b := setF z1 s) (by unfold setF; rw [List.getElem?_eq_getElem (show s < z1.length by omega)]; rfl)
      obtain rfl := Option.some.inj e
      exact hc
    have HY : Hid (∀ s, s < 0 → setF z1 s = true → TrapAt g0 (setF z1) s) := fun s hs => by omega
    rw [hls]
    clear Z m1
    obtain ⟨S, hS⟩ : ∃ S, S = setF z1 := ⟨_, rfl⟩
    rw [← hS] at HSc HY
    clear hS hls
    go_wp2
    go_loop [8] (fun i => ∃ (p : Nat), p ≤ n ∧ i = .int .i64 p ∧ Hid (∀ s, s < p → S s = true → TrapAt g0 S s)) (fun i => n - (intOf i).toNat)
    case atStart => exact ⟨0, by omega, rfl, HY⟩
    case round =>
      clear HY
      obtain ⟨p, hp, rfl, HT⟩ := hrel
      by_cases hlt : p < n
      · have hsc := HSc.out p hlt
        have hpl : p < g0.next.length := by rw [HLen.out]; exact hlt
        have HPl := Lib.hid hpl
        have HNx : Hid ((S p = true → TrapAt g0 S p) → ∀ s, s < p + 1 → S s = true → TrapAt g0 S s) := trap_next HT.out
        have e1 : (p : Int) < (n : Int) := by omega
        clear HT
        rcases hs : S p with _ | _
        · rw [hs] at hsc
          have HT := Lib.hid (HNx.out fun q => by rw [hs] at q; cases q)
          clear hs HNx
          go_wp2
          go_round
          case rel => exact ⟨p + 1, by omega, by go_num, HT⟩
          case measure => simp [intOf]; omega
        · rw [hs] at hsc
          have HNx := Lib.hid (fun (q : TrapAt g0 S p) => HNx.out fun _ => q)
          have hoc := VA.out.own_at hlt
          have hgc := VA.out.goal_at hlt
          have c0 := VA.out.box.c0
          have c1 := VA.out.box.c1
          have c2 := VA.out.box.c2
          obtain ⟨R, cr, hrc, hz, hr1, hr4, hgo⟩ := VA.out.row_at hlt
          have HZ := Lib.hid hz
          have HGo := Lib.hid hgo
          clear hz hgo hs
          have hfo := (HG.out.fit p hpl).own
          obtain ⟨G, hG⟩ : ∃ G, goalA g0 p = G := ⟨_, rfl⟩
          rw [hG] at hgc
          rcases hfo with ho | ho
          · rw [ho] at hoc
            have HY : Hid (∀ x ∈ (rowA g0 p).take 0, S x.toNat = true) := by simp [Hid]
            have HTr : Hid (goalA g0 p = false → (∀ x ∈ rowA g0 p, S x.toNat = true) → TrapAt g0 S p) := fun hg h => trap0 HG.out HPl.out hg ho h
            rw [hG] at HTr
            clear hpl ho hG
            generalize rowA g0 p = r at *
            go_wp2
            go_loop [9, 10] (fun sv i => ∃ (j : Nat), j ≤ r.length ∧ i = .int .i64 j ∧ sv = .bool true ∧ Hid (∀ x ∈ r.take j, S x.toNat = true)) (fun _ i => r.length - (intOf i).toNat)
            case atStart => exact ⟨0, by omega, rfl, rfl, HY⟩
            case round =>
              clear HY
              obtain ⟨j, hj, rfl, rfl, HI⟩ := hrel
              by_cases hlj : j < r.length
              · obtain ⟨q, hq, hqr⟩ := row_get HGo.out hlj
                have hqc := ints_cell HZ.out hqr
                have hqs := HSc.out q hq
                have e2 : (q : Int) < (n : Int) := by omega
                have e3 : (j : Int) < (r.length : Int) := by omega
                have hqe : r[j] = (q : Int) := by rw [List.getElem?_eq_getElem hlj] at hqr; exact Option.some.inj hqr
                clear hqr
                rcases hsq : S q with _ | _
                · rw [hsq] at hqs
                  clear HI hqe hsq
                  go_wp2
                  go_ret
                  exact ⟨rfl, B.out⟩
                · rw [hsq] at hqs
                  have HI2 := Lib.hid (all_take_succ HI.out hlj (by rw [hqe]; simpa using hsq))
                  clear HI hqe hsq
                  go_wp2
                  go_round
                  case rel => exact ⟨j + 1, by omega, by go_num, rfl, HI2⟩
                  case measure => simp [intOf]; omega
              · have e3 : ¬ (j : Int) < (r.length : Int) := by omega
                have hall := all_take_end HI.out (show r.length ≤ j by omega)
                rcases G with _ | _
                · have HT := Lib.hid (HNx.out (HTr.out rfl hall))
                  clear hall HI HTr HNx
                  go_wp2
                  go_round
                  case rel => exact ⟨p + 1, by omega, by go_num, HT⟩
                  case measure => simp [intOf]; omega
                · clear hall HI HTr HNx
                  go_wp2
                  go_ret
                  exact ⟨rfl, B.out⟩
          · rw [ho] at hoc
            have HY : Hid (((rowA g0 p).take 0).any (fun x => S x.toNat) = false) := rfl
            have HTr : Hid (goalA g0 p = false → ((rowA g0 p).any fun x => S x.toNat) = true → TrapAt g0 S p) := fun hg h => trap1 hg ho h
            rw [hG] at HTr
            clear hpl ho hG
            generalize rowA g0 p = r at *
            go_wp2
            go_loop [9, 10] (fun sv i => ∃ (j : Nat) (b : Bool), j ≤ r.length ∧ i = .int .i64 j ∧ sv = .bool b ∧ Hid ((r.take j).any (fun x => S x.toNat) = b)) (fun _ i => r.length - (intOf i).toNat)
            case atStart => exact ⟨0, false, by omega, rfl, rfl, HY⟩
            case round =>
              clear HY
              obtain ⟨j, b, hj, rfl, rfl, HI⟩ := hrel
              by_cases hlj : j < r.length
              · obtain ⟨q, hq, hqr⟩ := row_get HGo.out hlj
                have hqc := ints_cell HZ.out hqr
                have hqs := HSc.out q hq
                have e2 : (q : Int) < (n : Int) := by omega
                have e3 : (j : Int) < (r.length : Int) := by omega
                have hqe : r[j] = (q : Int) := by rw [List.getElem?_eq_getElem hlj] at hqr; exact Option.some.inj hqr
                clear hqr
                have hnx := any_take (r := r) (f := fun x => S x.toNat) hlj
                rw [HI.out, hqe] at hnx
                simp only [Int.toNat_natCast] at hnx
                rcases hsq : S q with _ | _
                · rw [hsq] at hqs
                  have HI2 : Hid ((r.take (j + 1)).any (fun x => S x.toNat) = b) := by unfold Hid; rw [hnx, hsq]; simp
                  clear HI hqe hsq hnx
                  rcases b with _ | _
                  all_goals
                    go_wp2
                    go_round
                    case rel => exact ⟨j + 1, _, by omega, by go_num, rfl, HI2⟩
                    case measure => simp [intOf]; omega
                · rw [hsq] at hqs
                  have HI2 : Hid ((r.take (j + 1)).any (fun x => S x.toNat) = true) := by unfold Hid; rw [hnx, hsq]; simp
                  clear HI hqe hsq hnx
                  rcases b with _ | _
                  all_goals
                    go_wp2
                    go_round
                    case rel => exact ⟨j + 1, true, by omega, by go_num, rfl, HI2⟩
                    case measure => simp [intOf]; omega
              · have e3 : ¬ (j : Int) < (r.length : Int) := by omega
                have hall := HI.out
                rw [List.take_of_length_le (show r.length ≤ j by omega)] at hall
                rcases G with _ | _
                · rcases b with _ | _
                  · clear hall HI HTr HNx
                    go_wp2
                    go_ret
                    exact ⟨rfl, B.out⟩
                  · have HT := Lib.hid (HNx.out (HTr.out rfl hall))
                    clear hall HI HTr HNx
                    go_wp2
                    go_round
                    case rel => exact ⟨p + 1, by omega, by go_num, HT⟩
                    case measure => simp [intOf]; omega
                · clear hall HI HTr HNx
                  rcases b with _ | _
                  all_goals
                    go_wp2
                    go_ret
                    exact ⟨rfl, B.out⟩
      · obtain rfl : p = n := by omega
        have HTr : Hid (∀ s, s < p → S s = true → rank g0 s < 0) := fun s hs hS => trap_rank HG.out (S := S) (fun t ht hT => HT.out t (by rw [← HLen.out]; exact ht) hT) (by rw [HLen.out]; exact hs) hS
        clear HT
        go_wp2
        go_loop [12] (fun i => ∃ (s : Nat), s ≤ p ∧ i = .int .i64 s) (fun i => p - (intOf i).toNat)
        case atStart => exact ⟨0, by omega, rfl⟩
        case round =>
          obtain ⟨s, hs, rfl⟩ := hrel
          by_cases hlt2 : s < p
          · have hsc := HSc.out s hlt2
            have hrc := rw_cell rk.out (fT_get (rank g0) hlt2)
            have e1 : (s : Int) < (p : Int) := by omega
            have hneg := HTr.out s hlt2
            obtain ⟨X, hX⟩ : ∃ X, rank g0 s = X := ⟨_, rfl⟩
            rw [hX] at hrc hneg
            clear hX
            rcases hS : S s with _ | _
            · rw [hS] at hsc
              clear hneg hS
              go_wp2
              go_round
              case rel => exact ⟨s + 1, by omega, by go_num⟩
              case measure => simp [intOf]; omega
            · rw [hS] at hsc
              have hn := hneg hS
              have hn2 : ¬ X ≥ 0 := by omega
              clear hneg hS
              go_wp2
              go_round
              case rel => exact ⟨s + 1, by omega, by go_num⟩
              case measure => simp [intOf]; omega
          · have e1 : ¬ (s : Int) < (p : Int) := by omega
            go_wp2
            go_ret
            exact ⟨rfl, B.out⟩
  · obtain ⟨x, hx⟩ := errA_bad g1
    obtain ⟨O, co, A, c, F, cf, rfl, h⟩ := h0
    obtain ⟨u, hu, hb0, hX, ha⟩ := box_ar w h
    have B := Lib.hid hb0
    have W0 := Lib.hid hu
    have VX := Lib.hid hX
    have VH := Lib.hid (show ArAt u u.heap.size (.agg #[.slice O g0.own.length co, .slice A g0.next.length c, .slice F g0.goal.length cf]) g0 from ⟨O, co, A, c, F, cf, rfl, ha⟩)
    have HRk := Lib.hid (fun W v (h : ArAt W W.heap.size v g0) => ranks_bad v g0 W h hx)
    have HMv := Lib.hid (fun W v (h : ArAt W W.heap.size v g0) => moves_bad v g0 W h hx)
    clear hX hu hb0 ha h hx
    generalize g0.next.length = n at *
    generalize g0.own.length = no at *
    generalize g0.goal.length = ng at *
    go_enter Try.func7, Try.ntmps7
    go_wp2_with fail
    rw [← W0.out]
    clear W0
    refine (HF.out _).mono ?_
    rintro e u1 ⟨rfl, hb⟩
    have VH := Lib.hid (VH.out.on hb)
    have VX := Lib.hid (VX.out.on hb)
    have B := Lib.hid (B.out.trans (hb.mono B.out.size))
    clear hb HF
    have c0 := VX.out.c0
    have c1 := VX.out.c1
    have c2 := VX.out.c2
    go_wp2_with fail
    refine (HRk.out _ _ VH.out).mono ?_
    rintro e u2 ⟨rfl, hb⟩
    have VH := Lib.hid (VH.out.on hb)
    have VX := Lib.hid (VX.out.on hb)
    have B := Lib.hid (B.out.trans (hb.mono B.out.size))
    clear hb c0 c1 c2 HRk
    go_wp2
    go_ret
    exact ⟨rfl, B.out⟩


set_option maxRecDepth 100000 in
theorem lifted (os : Os) (started : os.Started) (H : Type) (enc : TypeId × Value → H) :
    ReturnsInHanded {} Try.checked os 7 .any (Rows.duelTrapsSpec.pre6 enc Try.prog Try.f7 Rows.duelTrapsRow.domain false) (Rows.duelTrapsSpec.post enc Try.prog Try.f7 false true false false) := by
  refine returnsInHanded_of_change_sized (C := Try.checked) own started (by kernel_rfl) Try.func7
    (ChangeSpec.witness6 (enc := enc) (C := Try.checked) false ⟨#[], #[.agg #[.slice none 0 0, .slice none 0 0, .slice none 0 0], .slice none 0 0], []⟩ 8 (by kernel_rfl) (by kernel_rfl) (by kernel_rfl) (by kernel_rfl)) ?_
  intro W base args ds gs before hval0 hW hcnd hsz0 _
  have hval : ∀ (j : Nat) t v, Try.f7.params[j]? = some t → args[j]? = some v → Value.okWide Try.prog W .any base t v := hval0
  have hsz : (DataW.weightsEach Try.prog (Try.f7.params.toList ++ Rows.duelTrapsSpec.plain.varTypes Try.prog) (ds ++ gs)).all (· ≤ reachBytes) = true := hsz0
  have hW' := hW
  obtain ⟨p, q, hA0, hV0, rfl, hfz, hnd⟩ := hW
  have hV : DataW.TrodVars enc Try.prog W (fun _ => true) [] gs q := hV0
  have hA : DataW.TrodAll enc Try.prog W 0 (fun _ => true) true Try.f7.params.toList args.toList ds p := hA0
  rw [Try.params7] at hA hval hsz
  obtain ⟨v0, vs0, d0, ds0, p0, q0, hargs, rfl, rfl, h0, rr0⟩ := trodAll_cons hA
  obtain ⟨v1, vs1, d1, ds1, p1, q1, rfl, rfl, rfl, h1, rr1⟩ := trodAll_cons rr0
  obtain ⟨rfl, rfl, rfl⟩ := trodAll_nil rr1
  obtain rfl : args = #[v0, v1] := by cases args; simp_all
  obtain ⟨rfl, rfl⟩ := trodVars_none hV
  have k0 := h0
  have lt0 : ∀ x ∈ p0, x.block < W.heap.size := by obtain ⟨m, hm⟩ := k0; exact DataW.trod_lt m _ _ _ hm
  have k1 := h1
  have lt1 : ∀ x ∈ p1, x.block < W.heap.size := by obtain ⟨m, hm⟩ := k1; exact DataW.trod_lt m _ _ _ hm
  obtain ⟨D0, x0⟩ : ∃ g : Du.Ar, Du.ArAt W W.heap.size v0 g := Du.ar_open (hval 0 26 v0 rfl rfl) h0
  obtain ⟨A1, c1, z1, rfl, m1, n1, x1⟩ := Df.bools_open (hval 1 24 v1 rfl rfl) h1
  clear hA0 hval0
  refine (walk v0 D0 A1 c1 z1 W x0 x1 m1 n1).mono fun e W' ⟨he, bel⟩ => ?_
  subst he
  exact ⟨_, rfl, _, _, _, [], _, [], hW', trodAll_mk1 (shut_bool Try.underlying4 _), (trodAll_cons_mk (Below.trod laidOut (by kernel_rfl) (of_decide_eq_true (by kernel_rfl)) k0 bel lt0) (trodAll_cons_mk (Below.trod laidOut (by kernel_rfl) (of_decide_eq_true (by kernel_rfl)) k1 bel lt1) trodAll_mk0)), rfl, bel.frame _, fun h => by cases h⟩

theorem over : Rows.duelTrapsRow.holds Try.pinned (OpenSpec.ofChange Rows.duelTrapsSpec) :=
  OpenClaim.holds_of_wide 7 Try.f7 rfl rfl rfl rfl rfl rfl rfl ⟨rfl, rfl, rfl, rfl, rfl⟩ rfl rfl rfl rfl rfl (by kernel_rfl) Try.func7 (by kernel_rfl)
    (of_decide_eq_true (by kernel_rfl)) (by unfold Func.isWrapper; rw [if_neg (of_decide_eq_false (by kernel_rfl))]; exact ⟨rfl, rfl⟩)
    (fun os started H enc _ => lifted os started H enc)
theorem proved : Rows.DuelTrapsSaid := over
#print axioms proved
end Go.Proofs.Ytkphdegelhlpeaa.duelTraps
