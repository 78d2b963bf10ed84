/- The walk of the document's answer for package safe: stilewardref2's Class. -/
import Derived.Test.YtciopfiddfmckaaDoorRefLive
import Derived.Test.YtciopfiddfmckaaDoorSafeM
namespace Go.Proofs.YtciopfiddfmckaaDoor.Sa
open Go.RowKit Go.IntWalk Go.Proofs.YtciopfiddfmckaaDoor.Wd Go.Proofs.YtciopfiddfmckaaDoor.Wo Go.Proofs.YtciopfiddfmckaaDoor.Df Go.Proofs.YtciopfiddfmckaaDoor.Rc Go.Proofs.YtciopfiddfmckaaDoor.Sm

def oneV (b : Bool) : Int := if b then 0 else 1
def twoV (b : Bool) : Int := if b then 0 else 2
theorem pair_of {d : Aut} {x y : Bool} {s t : Nat} {p : Nat} (hp : d.s.toNat = p) {a b f h : Bool} (h1 : isReached d p s = a) (h2 : isReached d s t = b) (h3 : finA d s = f) (h4 : finA d t = h) : Pair d x y s t = (a && b && (f == x) && (h == y)) := by
  unfold Pair; rw [hp, h1, h2, h3, h4]
theorem class_seen {d : Aut} (g : Df.Good d) : ((classA d : Nat) : Int) = oneV (seen d false true d.next.length 0) + twoV (seen d true false d.next.length 0) := by
  unfold classA clsN oneV twoV
  rw [begunB_seen g, goesB_seen g]
  rcases seen d false true d.next.length 0 with _ | _ <;> rcases seen d true false d.next.length 0 with _ | _ <;> rfl
set_option linter.unusedSimpArgs false in
set_option maxRecDepth 100000 in
set_option maxHeartbeats 4000000 in
theorem rclass_any (v : Value) (d : Aut) (w : World) (h : DfaAt w w.heap.size v d) (hg : Df.Good d) :
    Calls Tryd.prog 8 #[v] w fun e w' => Hid (e = .returned (.int .i64 ((classA d : Nat) : Int))) ∧ Below w.heap.size w w' := by
  have HV := h
  obtain ⟨L, s, A, c, F, cf, rfl, h⟩ := h
  obtain ⟨w1, hw1, hB1, hX, hd1⟩ := box_dfa w h
  have HB := Lib.hid hB1
  have HX := Lib.hid hX
  have HW := Lib.hid hw1
  have HD := Lib.hid hd1
  have HG := Lib.hid hg
  have HLd := Lib.hid (leads_any _ d w1 (HV.on hB1) hg)
  obtain ⟨p, hp⟩ := Int.eq_ofNat_of_zero_le (show 0 ≤ s by have := hg.st.1; have := h.es; omega)
  subst hp
  have HPs : Hid (d.s.toNat = p) := by have := h.es; unfold Hid; omega
  have hpn : p < d.next.length := by have := hg.s_lt; have := h.es; omega
  have h40 := hg.n40
  have hfm : d.fin.length = d.next.length := hg.fin
  have hc0 := hX.c0
  have hc1 := hX.c1
  have hc2 := hX.c2
  have hc3 := hX.c3
  clear h hd1 hw1 hX hB1 hg HV
  have HCl := Lib.hid (class_seen HG.out)
  obtain ⟨N, hN⟩ : ∃ N, d.next.length = N := ⟨_, rfl⟩
  rw [hfm] at hc3 HW HX HLd
  rw [hN] at hc2 hc3 HW HX HLd hpn h40 HCl
  rw [hfm, hN]
  have HN := Lib.hid hN
  clear hN hfm
  go_enter Tryd.func8, Tryd.ntmps8
  go_wp2_with fail
  rw [← HW.out]
  clear HW
  refine HLd.out.mono ?_
  rintro e w2 he
  obtain ⟨At, ct, rs, h1, h2, h3, h4, h5⟩ := he.out
  subst h1
  have HT := Lib.hid h4
  have HLen := Lib.hid h2
  have HRows := Lib.hid h3
  have HX := Lib.hid (HX.out.on h5)
  have HD := Lib.hid (HD.out.on h5)
  have HB := Lib.hid (HB.out.trans (h5.mono HB.out.size))
  clear he h2 h3 h4 h5 HLd hc0 hc1 hc2 hc3
  obtain ⟨rp, hrp⟩ : ∃ r, rs[p]? = some r := ⟨_, List.getElem?_eq_getElem (by rw [HLen.out]; exact hpn)⟩
  have HRp := Lib.hid hrp
  obtain ⟨_, ⟨adt, e0, hatb, hatc⟩, hrb, hrc0⟩ := HT.out p rp hrp
  subst e0
  unfold brV at hatc
  have HPc : Hid (∀ q, q < N → w2.cell? ⟨rp.1, q, none⟩ = some (.bool (isReached d p q))) := fun q hq => hrc0 q _ (by rw [HRows.out p rp hrp]; exact bF_get _ hq)
  have hc1 := HX.out.c1
  have hc3 := HX.out.c3
  have e0 : (p : Int) < (N : Int) := by omega
  clear hrc0 hrp hatb hrb
  go_wp2
  go_loop [4, 5, 6] (fun o t i => ∃ (k : Nat), k ≤ N ∧ i = .int .i64 k ∧ o = .int .i64 (oneV (seen d false true k 0)) ∧ t = .int .i64 (twoV (seen d true false k 0))) (fun _ _ i => N - (intOf i).toNat)
  case atStart => exact ⟨0, by omega, rfl, rfl, rfl⟩
  case round =>
    obtain ⟨k, hk, rfl, rfl, rfl⟩ := hrel
    by_cases hkN : k < N
    · have hkn : k < d.next.length := by rw [HN.out]; exact hkN
      obtain ⟨rk, hrk⟩ : ∃ r, rs[k]? = some r := ⟨_, List.getElem?_eq_getElem (by rw [HLen.out]; exact hkN)⟩
      obtain ⟨_, ⟨adt', e1, _, hakc⟩, _, hrkc⟩ := HT.out k rk hrk
      cases e1
      unfold brV at hakc
      have HKc : Hid (∀ q, q < N → w2.cell? ⟨rk.1, q, none⟩ = some (.bool (isReached d k q))) := fun q hq => hrkc q _ (by rw [HRows.out k rk hrk]; exact bF_get _ hq)
      have hpc := HPc.out k hkN
      obtain ⟨adf, hF, hadf, hcf, _⟩ := HD.out.fins.at_ (HG.out.fin_at hkn)
      subst hF
      have HFa : Hid (∀ q, q < N → w2.cell? (adf.add q) = some (.bool (finA d q))) := fun q hq => by
        obtain ⟨ad9, hF, _, hcf9, _⟩ := HD.out.fins.at_ (HG.out.fin_at (q := q) (by rw [HN.out]; exact hq))
        obtain rfl := Option.some.inj hF
        exact hcf9
      have e1 : (k : Int) < (N : Int) := by omega
      clear hrkc hrk
      have HRow : Hid (∀ x y, seen d x y k N = seen d x y (k + 1) 0) := fun x y => by rw [← HN.out]; exact seen_row d x y k
      go_wp2
      go_loop [4, 5, 7] (fun o t i => ∃ (j : Nat), j ≤ N ∧ i = .int .i64 j ∧ o = .int .i64 (oneV (seen d false true k j)) ∧ t = .int .i64 (twoV (seen d true false k j))) (fun _ _ i => N - (intOf i).toNat)
      case atStart => exact ⟨0, by omega, rfl, rfl, rfl⟩
      case round =>
        obtain ⟨j, hj, rfl, rfl, rfl⟩ := hrel
        by_cases hjN : j < N
        · have hjc := HKc.out j hjN
          have hfj := HFa.out j hjN
          have e2 : (j : Int) < (N : Int) := by omega
          have HP1 := Lib.hid (pair_of (d := d) (x := false) (y := true) (s := k) (t := j) HPs.out rfl rfl rfl rfl)
          have HP2 := Lib.hid (pair_of (d := d) (x := true) (y := false) (s := k) (t := j) HPs.out rfl rfl rfl rfl)
          have HS1 := Lib.hid (seen_succ d false true k j)
          have HS2 := Lib.hid (seen_succ d true false k j)
          rw [HP1.out] at HS1
          rw [HP2.out] at HS2
          clear HP1 HP2
          generalize isReached d p k = r1 at *
          generalize isReached d k j = r2 at *
          generalize finA d k = f1 at *
          generalize finA d j = f2 at *
          generalize seen d false true k j = b1 at *
          generalize seen d true false k j = b2 at *
          rcases r1 with _ | _
          · as_aux_lemma =>
              generalize hx : oneV b1 = x at *
              generalize hy : twoV b2 = y at *
              have HXx := Lib.hid hx
              have HYy := Lib.hid hy
              clear hx hy
              go_wp2
              go_round
              case rel => exact ⟨j + 1, by omega, by go_num, by rw [HS1.out, ← HXx.out]; simp, by rw [HS2.out, ← HYy.out]; simp⟩
              case measure => simp [intOf]; omega
          · rcases r2 with _ | _
            · as_aux_lemma =>
                generalize hx : oneV b1 = x at *
                generalize hy : twoV b2 = y at *
                have HXx := Lib.hid hx
                have HYy := Lib.hid hy
                clear hx hy
                go_wp2
                go_round
                case rel => exact ⟨j + 1, by omega, by go_num, by rw [HS1.out, ← HXx.out]; simp, by rw [HS2.out, ← HYy.out]; simp⟩
                case measure => simp [intOf]; omega
            · rcases f1 with _ | _ <;> rcases f2 with _ | _
              all_goals as_aux_lemma =>
                generalize hx : oneV b1 = x at *
                generalize hy : twoV b2 = y at *
                have HXx := Lib.hid hx
                have HYy := Lib.hid hy
                clear hx hy
                go_wp2
                go_round
                case rel => exact ⟨j + 1, by omega, by go_num, by rw [HS1.out]; first | (rw [← HXx.out]; simp; done) | (simp [oneV]; done), by rw [HS2.out]; first | (rw [← HYy.out]; simp; done) | (simp [twoV]; done)⟩
                case measure => simp [intOf]; omega
        · obtain rfl : j = N := by omega
          have HR1 := Lib.hid (HRow.out false true)
          have HR2 := Lib.hid (HRow.out true false)
          clear HKc HFa hakc hcf hpc
          generalize hx : oneV (seen d false true k j) = x at *
          generalize hy : twoV (seen d true false k j) = y at *
          have HXx := Lib.hid hx
          have HYy := Lib.hid hy
          clear hx hy
          go_wp2
          go_round
          case rel => exact ⟨k + 1, by omega, by go_num, by rw [← HXx.out, HR1.out], by rw [← HYy.out, HR2.out]⟩
          case measure => simp [intOf]; omega
    · obtain rfl : k = N := by omega
      clear HPc hc1 hc3 hatc
      generalize seen d false true k 0 = b1 at *
      generalize seen d true false k 0 = b2 at *
      rcases b1 with _ | _ <;> rcases b2 with _ | _
      all_goals
        simp only [oneV, twoV, if_true, if_false, Bool.false_eq_true] at *
        go_wp2
        go_ret
        exact ⟨by rw [HCl.out]; rfl, HB.out⟩
end Go.Proofs.YtciopfiddfmckaaDoor.Sa
