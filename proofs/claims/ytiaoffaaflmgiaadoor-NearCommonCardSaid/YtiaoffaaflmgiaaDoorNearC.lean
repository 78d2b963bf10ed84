/- The walk of near.Common. -/
import Derived.Test.YtiaoffaaflmgiaaDoorNearL
namespace Go.Proofs.YtiaoffaaflmgiaaDoor.Ne
open Go.RowKit Go.IntWalk Go.Proofs.YtiaoffaaflmgiaaDoor.Wd Go.Proofs.YtiaoffaaflmgiaaDoor.Wo

def comOut (L : Int) (v z : List Int) : List Int × Nat := if chk2 L v z = 0 then (com v z, 0) else ([], chk2 L v z)
theorem nums_weaken {w w1 wr : World} {l : List Int} {x : Value} (h : Nums w1.heap.size w1 l x wr) (hb : Below w.heap.size w w1) : Nums w.heap.size w l x wr := by
  obtain ⟨⟨h1, h2⟩, h3, h4⟩ := h
  refine ⟨⟨h1, ?_⟩, hb.trans (h3.mono hb.size), Nat.le_trans hb.size h4⟩
  rcases h2 with h2 | ⟨g, cap, cur, e, hB, r⟩
  · exact .inl h2
  · exact .inr ⟨g, cap, cur, e, Nat.le_trans hb.size hB, r⟩
/-- The next letter of the best. -/
theorem next_letter {L : Int} {v z : List Int} (hv : Fine L v) {k i j : Nat} (hk : k < ll v z) (h : com (v.drop i) (z.drop j) = (com v z).drop k) :
    ∃ (p : Nat) (r : List Int), (p : Int) < L ∧ com (v.drop i) (z.drop j) = (p : Int) :: r ∧ (com v z).drop (k + 1) = r ∧ (com v z).take (k + 1) = (com v z).take k ++ [(p : Int)] := by
  have hl := com_len v z
  have hk' : k < (com v z).length := by omega
  have hm := hv.2.2 _ ((com_best v z).left.mem (List.getElem_mem hk'))
  have e : (((com v z)[k].toNat : Nat) : Int) = (com v z)[k] := by omega
  refine ⟨(com v z)[k].toNat, _, by omega, ?_, rfl, ?_⟩
  · rw [h, e, ← List.drop_eq_getElem_cons hk']
  · rw [e, List.take_append_getElem hk']
theorem com_fine {L : Int} {v z : List Int} (h : Fine L v) : Fine L (com v z) :=
  ⟨h.1, Nat.le_trans (com_best v z).left.length_le h.2.1, fun a ha => h.2.2 a ((com_best v z).left.mem ha)⟩
set_option maxRecDepth 100000 in
set_option maxHeartbeats 2000000 in
theorem com_any (L : Int) (A : Option Addr) (c : Nat) (v : List Int) (B : Option Addr) (d : Nat) (z : List Int) (w : World) (hL : Small L) (hA : IntsAt w w.heap.size A v) (hB : IntsAt w w.heap.size B z) (hv : v.length ≤ 17592186044416) (hz : z.length ≤ 17592186044416) (hvc : v.length ≤ c) (hzd : z.length ≤ d) :
    Calls Tryd.prog 10 #[.int .i64 L, .slice A v.length c, .slice B z.length d] w fun e w' => Hid (∃ x, e = .returned (.tuple #[x, errV (comOut L v z).2]) ∧ Nums w.heap.size w (comOut L v z).1 x w') := by
  rcases hc : chk2 L v z with _ | e0
  · have HC := Lib.hid (nchk_ok L A c v B d z w hL hA hB hv hz hc)
    obtain ⟨hfv, _, k80, _⟩ := chk2_iff.1 hc
    have HFV := Lib.hid hfv
    obtain ⟨⟨g1, g2⟩, h80, _⟩ := hfv
    have HT := Lib.hid (longest_any A c v B d z w hA hB h80 k80)
    have HA := Lib.hid hA
    have HB := Lib.hid hB
    have HR : Hid (comOut L v z = (com v z, 0)) := by unfold comOut Hid; rw [if_pos hc]
    clear hA hB hc
    go_enter Tryd.func10, Tryd.ntmps10
    go_wp2_with fail
    refine HC.out.mono ?_
    rintro e w1 ⟨rfl, rfl⟩
    clear HC
    go_wp2_with fail
    refine HT.out.mono ?_
    rintro e w1 ⟨he, hb⟩
    obtain ⟨T, h1, ht⟩ := he.out
    obtain rfl := h1
    have HTab := Lib.hid ht
    have HBW := Lib.hid hb
    obtain ⟨t0, _, ht1, ht2⟩ := ht.row 0 (by omega)
    have ht3 := ht2 0 (by omega)
    rw [List.drop_zero, List.drop_zero] at ht3
    have hN := ll_le v z
    obtain ⟨N, hN0⟩ : ∃ N, N = ll v z := ⟨_, rfl⟩
    rw [← hN0] at hN ht3
    have HN := Lib.hid hN0
    clear he hb ht ht2 HT hN0
    have HS := Lib.hid (nums_nil w1)
    have hk0 : (0 : Int) < (v.length : Int) + 1 := by omega
    have hk1 : (0 : Int) < (z.length : Int) + 1 := by omega
    go_wp2
    clear ht1 ht3
    go_loopw [10, 11, 12, 33] (fun s10 s11 s12 s wr => ∃ (k i j : Nat), k ≤ N ∧ i ≤ v.length ∧ j ≤ z.length ∧ s = .int .i64 k ∧ s11 = .int .i64 i ∧ s12 = .int .i64 j ∧ Hid (Nums w1.heap.size w1 ((com v z).take k) s10 wr ∧ com (v.drop i) (z.drop j) = (com v z).drop k)) (fun _ _ _ s _ => N - (intOf s).toNat)
    case atStart => exact ⟨0, 0, 0, by omega, by omega, by omega, rfl, rfl, rfl, by simpa using HS.out, by simp⟩
    case round =>
      clear HS
      obtain ⟨k, i, j, hk, hi, hj, rfl, rfl, rfl, HS⟩ := hrel
      by_cases hlt : k < N
      · obtain ⟨p, r, hpL, hpr, hpd, hpt⟩ := next_letter HFV.out (by rw [← HN.out]; exact hlt) HS.out.2
        have HP := Lib.hid (And.intro hpr (And.intro hpd hpt))
        have HS1 := Lib.hid HS.out.1
        clear hpr hpd hpt HS
        go_wp2
        go_loopw [10, 11, 12, 36] (fun s10 s11 s12 s wi => ∃ (q : Nat), q ≤ p ∧ s = .int .i64 q ∧ s11 = .int .i64 i ∧ s12 = .int .i64 j ∧ Hid (Nums w1.heap.size w1 ((com v z).take k) s10 wi)) (fun _ _ _ s _ => p + 1 - (intOf s).toNat)
        case atStart => exact ⟨0, by omega, rfl, rfl, rfl, HS1⟩
        case round =>
          clear HS1
          obtain ⟨q, hq, rfl, rfl, rfl, HS⟩ := hrel
          have hqL : (q : Int) < L := by omega
          have HV1 := Lib.hid (behind_any A c v i (q : Int) wr ((HA.out.on HBW.out).on HS.out.2.1) h80 hvc hi)
          have HZ1 := Lib.hid (behind_any B d z j (q : Int) wr ((HB.out.on HBW.out).on HS.out.2.1) k80 hzd hj)
          have HTb := Lib.hid (HTab.out.on HS.out.2.1)
          go_wp2_with fail
          refine HV1.out.mono ?_
          rintro e w2 ⟨he, rfl⟩
          clear HV1
          rcases he.out with ⟨rfl, hc1⟩ | ⟨k1, rfl, hk2, hk3, hc1⟩
          · clear he
            have hqp : q < p := by
              rcases Nat.lt_or_ge q p with h | h
              · exact h
              · obtain rfl : q = p := by omega
                obtain ⟨v', z', c1, c2, _, _⟩ := next_first HP.out.1
                rw [hc1] at c1; cases c1
            clear hc1
            go_wp2_with fail
            refine HZ1.out.mono ?_
            rintro e w2 ⟨he, rfl⟩
            clear HZ1
            obtain ⟨y, b, rfl⟩ : ∃ (y : Int) (b : Bool), e = .returned (.tuple #[.int .i64 y, .bool b]) := by
              rcases he.out with ⟨rfl, _⟩ | ⟨k2, rfl, _⟩
              · exact ⟨_, _, rfl⟩
              · exact ⟨_, _, rfl⟩
            clear he
            go_wp2_with fail
            go_quiet (fail)
            go_wp2
            go_roundw
            case rel => exact ⟨q + 1, by omega, by go_num, rfl, rfl, nums_drewN HS.out _⟩
            case measure => simp [intOf]; omega
          · clear he
            have HC1 := Lib.hid hc1
            clear hc1
            go_wp2_with fail
            refine HZ1.out.mono ?_
            rintro e w2 ⟨he, rfl⟩
            clear HZ1
            rcases he.out with ⟨rfl, hc2⟩ | ⟨k2, rfl, hk4, hk5, hc2⟩
            · clear he
              have hqp : q < p := by
                rcases Nat.lt_or_ge q p with h | h
                · exact h
                · obtain rfl : q = p := by omega
                  obtain ⟨v', z', c1, c2, _, _⟩ := next_first HP.out.1
                  rw [hc2] at c2; cases c2
              clear hc2
              go_wp2_with fail
              go_quiet (fail)
              go_wp2
              go_roundw
              case rel => exact ⟨q + 1, by omega, by go_num, rfl, rfl, nums_drewN HS.out _⟩
              case measure => simp [intOf]; omega
            · clear he
              have HC2 := Lib.hid hc2
              clear hc2
              obtain ⟨r1, _, hr1, hr2⟩ := HTb.out.row k1 hk3
              have hr3 := hr2 k2 hk5
              obtain ⟨r2, _, hr4, hr5⟩ := HTb.out.row i hi
              have hr6 := hr5 j hj
              have b1 := ll_le (v.drop k1) (z.drop k2)
              have hd1 := List.length_drop (i := k1) (l := v)
              replace b1 : ll (v.drop k1) (z.drop k2) ≤ 80 := by omega
              have hi1 : (k1 : Int) < (v.length : Int) + 1 := by omega
              have hi2 : (k2 : Int) < (z.length : Int) + 1 := by omega
              have hi3 : (i : Int) < (v.length : Int) + 1 := by omega
              have hi4 : (j : Int) < (z.length : Int) + 1 := by omega
              clear hr2 hr5 hd1
              by_cases hh : ll (v.drop k1) (z.drop k2) + 1 = ll (v.drop i) (z.drop j)
              · have hqp : q = p := by
                  rcases Nat.lt_or_ge q p with h | h
                  · exact absurd hh (next_not HP.out.1 (by omega) HC1.out HC2.out)
                  · omega
                subst hqp
                have HG : Hid (com (v.drop k1) (z.drop k2) = (com v z).drop (k + 1)) := by
                  obtain ⟨v', z', c1, c2, _, c4⟩ := next_first HP.out.1
                  rw [HC1.out] at c1
                  rw [HC2.out] at c2
                  obtain rfl := Option.some.inj c1
                  obtain rfl := Option.some.inj c2
                  unfold Hid
                  rw [c4, HP.out.2.1]
                have he1 : (((ll (v.drop k1) (z.drop k2) : Nat) : Int) + 1 == ((ll (v.drop i) (z.drop j) : Nat) : Int)) = true := by
                  rw [← hh]; simp
                have HTK := Lib.hid HP.out.2.2
                have hlen : ((com v z).take k).length < 17592186044416 := by rw [List.length_take]; omega
                clear hh HP
                generalize ll (v.drop k1) (z.drop k2) = X at *
                generalize ll (v.drop i) (z.drop j) = Y at *
                go_wp2_with fail
                go_quiet (fail)
                have HS2 := Lib.hid (nums_drewN HS.out nq)
                clear hr1 hr3 hr4 hr6 HS HTb
                generalize wr.drewN nq = wq at *
                go_wp2_with (at_builtin; refine app_one rfl _ _ rfl rfl HS2.out rfl ?c1 ?_)
                case c1 => exact hlen
                intro v' w2 hn'
                have HN2 : Hid (Nums w1.heap.size w1 ((com v z).take (k + 1)) v' w2) := by unfold Hid; rw [HTK.out]; exact hn'
                clear hn' HS2
                go_wp2
                go_roundw
                case rel => exact ⟨k + 1, k1, k2, by omega, by omega, by omega, by go_num, rfl, rfl, HN2.out, HG.out⟩
                case measure => simp [intOf]; omega
              · have hqp : q < p := by
                  rcases Nat.lt_or_ge q p with h | h
                  · exact h
                  · obtain rfl : q = p := by omega
                    obtain ⟨v', z', c1, c2, c3, _⟩ := next_first HP.out.1
                    rw [HC1.out] at c1
                    rw [HC2.out] at c2
                    obtain rfl := Option.some.inj c1
                    obtain rfl := Option.some.inj c2
                    exact absurd c3 hh
                have he1 : (((ll (v.drop k1) (z.drop k2) : Nat) : Int) + 1 == ((ll (v.drop i) (z.drop j) : Nat) : Int)) = false := by
                  simp only [beq_eq_false_iff_ne, ne_eq]; omega
                clear hh
                generalize ll (v.drop k1) (z.drop k2) = X at *
                generalize ll (v.drop i) (z.drop j) = Y at *
                go_wp2_with fail
                go_quiet (fail)
                go_wp2
                go_roundw
                case rel => exact ⟨q + 1, by omega, by go_num, rfl, rfl, nums_drewN HS.out _⟩
                case measure => simp [intOf]; omega
      · obtain rfl : k = N := by omega
        have hn := nums_weaken HS.out.1 HBW.out
        rw [List.take_of_length_le (by rw [com_len]; exact Nat.le_of_eq HN.out.symm)] at hn
        have HX := Lib.hid hn
        clear hn HS
        go_wp2
        go_ret2
        exact ⟨_, by rw [HR.out]; rfl, by rw [HR.out]; exact HX.out⟩
  · have HC := Lib.hid (nchk_bad L A c v B d z w hL hA hB hv hz e0 hc)
    have HR : Hid (comOut L v z = ([], e0 + 1)) := by unfold comOut Hid; rw [if_neg (by omega), hc]
    clear hc
    generalize hE : ((e0 + 1 : Nat) : Int) = E at *
    have HE := Lib.hid hE
    clear hE
    go_enter Tryd.func10, Tryd.ntmps10
    go_wp2_with fail
    refine HC.out.mono ?_
    rintro e w1 ⟨rfl, rfl⟩
    clear HC
    go_wp2
    go_ret2
    obtain rfl := HE.out
    exact ⟨_, by rw [HR.out]; rfl, by rw [HR.out]; exact nums_nil w⟩
end Go.Proofs.YtiaoffaaflmgiaaDoor.Ne
