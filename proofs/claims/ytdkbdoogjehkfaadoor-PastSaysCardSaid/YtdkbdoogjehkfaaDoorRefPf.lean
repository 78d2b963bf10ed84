/- The reference's Form, of formulas that look back. -/
import Derived.Test.YtdkbdoogjehkfaaDoorRefForm
import Derived.Test.YtdkbdoogjehkfaaDoorPastM
namespace Go.Proofs.YtdkbdoogjehkfaaDoor.Fm
open Go.RowKit Go.IntWalk Go.Proofs.YtdkbdoogjehkfaaDoor.Wd Go.Proofs.YtdkbdoogjehkfaaDoor.Wo

theorem pparts_any (k : Int) (w : World) : Calls Tryd.prog 23 #[.int .i64 k, .bool true] w fun e w' => e = .returned (.int .i64 (prt (mrk k))) ∧ w' = w := by
  by_cases h : k = 0 ∨ k = 1 ∨ k = 2 ∨ k = 3 ∨ k = 4 ∨ k = 5 ∨ k = 10 ∨ k = 11
  · rcases h with rfl | rfl | rfl | rfl | rfl | rfl | rfl | rfl
    all_goals
      go_enter Tryd.func23, Tryd.ntmps23
      go_wp2
      go_ret
      exact ⟨rfl, rfl⟩
  · have e : prt (mrk k) = -1 := by
      unfold mrk
      rw [if_neg (by omega), if_neg (by omega)]
      split
      · rfl
      · unfold prt; rw [if_neg (by omega)]
    rw [e]
    clear e
    have z0 : (k == 0) = false := beq_eq_false_iff_ne.2 (by omega)
    have z1 : (k == 1) = false := beq_eq_false_iff_ne.2 (by omega)
    have z2 : (k == 2) = false := beq_eq_false_iff_ne.2 (by omega)
    have z3 : (k == 3) = false := beq_eq_false_iff_ne.2 (by omega)
    have z4 : (k == 4) = false := beq_eq_false_iff_ne.2 (by omega)
    have z5 : (k == 5) = false := beq_eq_false_iff_ne.2 (by omega)
    have z10 : (k == 10) = false := beq_eq_false_iff_ne.2 (by omega)
    have z11 : (k == 11) = false := beq_eq_false_iff_ne.2 (by omega)
    clear h
    go_enter Tryd.func23, Tryd.ntmps23
    go_wp2
    go_ret
    exact ⟨rfl, rfl⟩
set_option maxRecDepth 100000 in
set_option maxHeartbeats 4000000 in
theorem rpform_any (L : Int) (A : Option Addr) (c : Nat) (f : List Nd) (w : World) (hA : NodesAt w w.heap.size A f) (hlen : f.length ≤ 9223372036854775807) :
    Calls Tryd.prog 6 #[.int .i64 L, .slice A f.length c, .bool true] w fun e w' => Hid (e = .returned (.int .i64 (fchk L (mrF f)))) ∧ w' = w := by
  by_cases g : L < 1 ∨ 6 < L
  · have HL := Lib.hid (in2_any L 1 6 w false (decide_eq_false (by omega)))
    have HR := Lib.hid (fchk_letters (f := mrF f) g)
    clear g hA hlen
    generalize f.length = k at *
    go_enter Tryd.func6, Tryd.ntmps6
    go_wp2_with fail
    refine HL.out.mono ?_
    rintro e w2 ⟨rfl, rfl⟩
    clear HL
    go_wp2
    go_ret
    exact ⟨by rw [HR.out]; rfl, rfl⟩
  have HL := Lib.hid (in2_any L 1 6 w true (decide_eq_true (by omega)))
  by_cases g2 : f.length = 0
  · have HR := Lib.hid (fchk_none (f := mrF f) g (by rw [mrF_length]; exact g2))
    rw [g2]
    clear g hA hlen g2
    go_enter Tryd.func6, Tryd.ntmps6
    go_wp2_with fail
    refine HL.out.mono ?_
    rintro e w2 ⟨rfl, rfl⟩
    clear HL
    go_wp2
    go_ret
    exact ⟨by rw [HR.out]; rfl, rfl⟩
  by_cases g3 : 40 < f.length
  · have HR := Lib.hid (fchk_many (f := mrF f) g (by rw [mrF_length]; exact g3))
    clear g hA g2
    generalize f.length = k at *
    go_enter Tryd.func6, Tryd.ntmps6
    go_wp2_with fail
    refine HL.out.mono ?_
    rintro e w2 ⟨rfl, rfl⟩
    clear HL
    go_wp2
    go_ret
    exact ⟨by rw [HR.out]; rfl, rfl⟩
  have HS := Lib.hid (fchk_scan (f := mrF f) g (by rw [mrF_length]; exact g2) (by rw [mrF_length]; exact g3))
  have l1 : 1 ≤ L := by omega
  have l6 : L ≤ 6 := by omega
  have h0 : 0 < f.length := by omega
  have q1 : ((f.length : Int) == 0) = false := beq_eq_false_iff_ne.2 (by omega)
  have q2 : decide ((40 : Int) < (f.length : Int)) = false := decide_eq_false (by omega)
  have HA := Lib.hid hA
  have HSM := Lib.hid hA.2
  clear g g2 hA
  go_enter Tryd.func6, Tryd.ntmps6
  go_wp2_with fail
  refine HL.out.mono ?_
  rintro e w2 ⟨rfl, rfl⟩
  clear HL
  go_wp2
  go_loop [7] (fun i => ∃ (k : Nat), k ≤ f.length ∧ i = .int .i64 k ∧ Hid (fscan L 0 ((mrF f).drop 0) = fscan L k ((mrF f).drop k))) (fun i => f.length - (intOf i).toNat)
  case atStart => exact ⟨0, by omega, rfl, (rfl : fscan L 0 ((mrF f).drop 0) = fscan L 0 ((mrF f).drop 0))⟩
  case round =>
    obtain ⟨i, hk, rfl, HE⟩ := hrel
    by_cases hlt : i < f.length
    · obtain ⟨n, hn⟩ : ∃ n, f[i]? = some n := ⟨_, List.getElem?_eq_getElem hlt⟩
      obtain ⟨ad, e, hadb, c0, c1, c2⟩ := HA.out.at_ hn
      subst e
      have hsm := HSM.out n (List.mem_of_getElem? hn)
      have HN0 := fscan_at (L := L) (mrF_at hn)
      obtain ⟨k, a, b⟩ := n
      change fscan L i ((mrF f).drop i) = if nerr L i (mrk k, a, b) = 0 then _ else nerr L i (mrk k, a, b) at HN0
      have HN := Lib.hid HN0
      clear HN0
      obtain ⟨⟨b1, b2⟩, ⟨b3, b4⟩, b5, b6⟩ := hsm
      simp only at c0 c1 c2 b1 b2 b3 b4 b5 b6
      have HP := Lib.hid (pparts_any k w2)
      have HT := Lib.hid (refSet_any L a w2 l1 l6)
      have HIa := fun r h => Lib.hid (in2_any a 0 ((i : Int) - 1) w2 r h)
      have HIb := fun r h => Lib.hid (in2_any b 0 ((i : Int) - 1) w2 r h)
      rcases node_ways L i (mrk k) a b with ⟨hp, hx⟩ | ⟨h2, hp, ⟨hs, hx⟩ | ⟨hs, ⟨hb, hx⟩ | ⟨hb, hx⟩⟩⟩ | ⟨h2, ⟨hp, ⟨ha, hx⟩ | ⟨ha, ⟨hb, hx⟩ | ⟨hb, hx⟩⟩⟩ | ⟨hp, ⟨hb, hx⟩ | ⟨hb, ⟨ha, hx⟩ | ⟨ha, hx⟩⟩⟩ | ⟨hp, ⟨ha, hx⟩ | ⟨ha, ⟨hb, hx⟩ | ⟨hb, hx⟩⟩⟩⟩
      · rw [hp] at HP
        clear HT HIa HIb
        have HX : Hid (fchk L (mrF f) = 1) := by rw [Hid, HS.out, HE.out, HN.out, hx]; rfl
        clear hx HN hn
        go_wp2_with fail
        refine HP.out.mono ?_
        rintro e w3 ⟨rfl, rfl⟩
        clear HP
        go_wp2
        go_ret
        exact ⟨by rw [HX.out]; rfl, rfl⟩
      · obtain rfl := mrk_two.1 h2
        clear h2
        rw [hp] at HP
        have HT2 : Hid (Calls Tryd.prog 24 #[.int .i64 L, .int .i64 a] w2 fun e w' => e = .returned (.bool false) ∧ w' = w2) := HT.out.mono fun e w' ⟨h, h3⟩ => ⟨by rw [h.out, hs], h3.symm⟩
        clear HT HIa HIb hs
        have HX : Hid (fchk L (mrF f) = 1) := by rw [Hid, HS.out, HE.out, HN.out, hx]; rfl
        clear hx HN hn
        go_wp2_with fail
        refine HP.out.mono ?_
        rintro e w3 ⟨rfl, rfl⟩
        clear HP
        go_wp2_with fail
        refine HT2.out.mono ?_
        rintro e w3 ⟨rfl, rfl⟩
        clear HT2
        go_wp2
        go_ret
        exact ⟨by rw [HX.out]; rfl, rfl⟩
      · obtain rfl := mrk_two.1 h2
        clear h2
        rw [hp] at HP
        have HT2 : Hid (Calls Tryd.prog 24 #[.int .i64 L, .int .i64 a] w2 fun e w' => e = .returned (.bool true) ∧ w' = w2) := HT.out.mono fun e w' ⟨h, h3⟩ => ⟨by rw [h.out, hs], h3.symm⟩
        clear HT HIa HIb hs
        have zb : (b == 0) = false := beq_eq_false_iff_ne.2 hb
        have yb : (b != 0) = true := by simp [bne, zb]
        clear hb
        have HX : Hid (fchk L (mrF f) = 3) := by rw [Hid, HS.out, HE.out, HN.out, hx]; rfl
        clear hx HN hn
        go_wp2_with fail
        refine HP.out.mono ?_
        rintro e w3 ⟨rfl, rfl⟩
        clear HP
        go_wp2_with fail
        refine HT2.out.mono ?_
        rintro e w3 ⟨rfl, rfl⟩
        clear HT2
        go_wp2
        go_ret
        exact ⟨by rw [HX.out]; rfl, rfl⟩
      · obtain rfl := mrk_two.1 h2
        clear h2
        rw [hp] at HP
        have HT2 : Hid (Calls Tryd.prog 24 #[.int .i64 L, .int .i64 a] w2 fun e w' => e = .returned (.bool true) ∧ w' = w2) := HT.out.mono fun e w' ⟨h, h3⟩ => ⟨by rw [h.out, hs], h3.symm⟩
        clear HT HIa HIb hs
        subst hb
        have HX : Hid (fscan L 0 ((mrF f).drop 0) = fscan L (i + 1) ((mrF f).drop (i + 1))) := by rw [Hid, HE.out, HN.out, hx]; rfl
        clear hx HN hn
        go_wp2_with fail
        refine HP.out.mono ?_
        rintro e w3 ⟨rfl, rfl⟩
        clear HP
        go_wp2_with fail
        refine HT2.out.mono ?_
        rintro e w3 ⟨rfl, rfl⟩
        clear HT2
        go_wp2
        go_round
        case rel => exact ⟨i + 1, by omega, by go_num, HX⟩
        case measure => simp [intOf]; omega
      · have z2 : (k == 2) = false := beq_eq_false_iff_ne.2 fun e => h2 (mrk_two.2 e)
        rw [hp] at HP
        clear h2 HT
        clear HIa HIb
        have za : (a == 0) = false := beq_eq_false_iff_ne.2 ha
        have ya : (a != 0) = true := by simp [bne, za]
        clear ha
        have HX : Hid (fchk L (mrF f) = 3) := by rw [Hid, HS.out, HE.out, HN.out, hx]; rfl
        clear hx HN hn
        go_wp2_with fail
        refine HP.out.mono ?_
        rintro e w3 ⟨rfl, rfl⟩
        clear HP
        go_wp2
        go_ret
        exact ⟨by rw [HX.out]; rfl, rfl⟩
      · have z2 : (k == 2) = false := beq_eq_false_iff_ne.2 fun e => h2 (mrk_two.2 e)
        rw [hp] at HP
        clear h2 HT
        clear HIa HIb
        subst ha
        have zb : (b == 0) = false := beq_eq_false_iff_ne.2 hb
        have yb : (b != 0) = true := by simp [bne, zb]
        clear hb
        have HX : Hid (fchk L (mrF f) = 3) := by rw [Hid, HS.out, HE.out, HN.out, hx]; rfl
        clear hx HN hn
        go_wp2_with fail
        refine HP.out.mono ?_
        rintro e w3 ⟨rfl, rfl⟩
        clear HP
        go_wp2
        go_ret
        exact ⟨by rw [HX.out]; rfl, rfl⟩
      · have z2 : (k == 2) = false := beq_eq_false_iff_ne.2 fun e => h2 (mrk_two.2 e)
        rw [hp] at HP
        clear h2 HT
        clear HIa HIb
        subst ha
        subst hb
        have HX : Hid (fscan L 0 ((mrF f).drop 0) = fscan L (i + 1) ((mrF f).drop (i + 1))) := by rw [Hid, HE.out, HN.out, hx]; rfl
        clear hx HN hn
        go_wp2_with fail
        refine HP.out.mono ?_
        rintro e w3 ⟨rfl, rfl⟩
        clear HP
        go_wp2
        go_round
        case rel => exact ⟨i + 1, by omega, by go_num, HX⟩
        case measure => simp [intOf]; omega
      · have z2 : (k == 2) = false := beq_eq_false_iff_ne.2 fun e => h2 (mrk_two.2 e)
        rw [hp] at HP
        clear h2 HT
        clear HIa HIb
        have zb : (b == 0) = false := beq_eq_false_iff_ne.2 hb
        have yb : (b != 0) = true := by simp [bne, zb]
        clear hb
        have HX : Hid (fchk L (mrF f) = 3) := by rw [Hid, HS.out, HE.out, HN.out, hx]; rfl
        clear hx HN hn
        go_wp2_with fail
        refine HP.out.mono ?_
        rintro e w3 ⟨rfl, rfl⟩
        clear HP
        go_wp2
        go_ret
        exact ⟨by rw [HX.out]; rfl, rfl⟩
      · have z2 : (k == 2) = false := beq_eq_false_iff_ne.2 fun e => h2 (mrk_two.2 e)
        rw [hp] at HP
        clear h2 HT
        subst hb
        have HA1 := HIa false ha
        clear HIa ha
        clear HIb
        have HX : Hid (fchk L (mrF f) = 3) := by rw [Hid, HS.out, HE.out, HN.out, hx]; rfl
        clear hx HN hn
        go_wp2_with fail
        refine HP.out.mono ?_
        rintro e w3 ⟨rfl, rfl⟩
        clear HP
        go_wp2_with fail
        refine HA1.out.mono ?_
        rintro e w3 ⟨rfl, rfl⟩
        clear HA1
        go_wp2
        go_ret
        exact ⟨by rw [HX.out]; rfl, rfl⟩
      · have z2 : (k == 2) = false := beq_eq_false_iff_ne.2 fun e => h2 (mrk_two.2 e)
        rw [hp] at HP
        clear h2 HT
        subst hb
        have HA1 := HIa true ha
        clear HIa ha
        clear HIb
        have HX : Hid (fscan L 0 ((mrF f).drop 0) = fscan L (i + 1) ((mrF f).drop (i + 1))) := by rw [Hid, HE.out, HN.out, hx]; rfl
        clear hx HN hn
        go_wp2_with fail
        refine HP.out.mono ?_
        rintro e w3 ⟨rfl, rfl⟩
        clear HP
        go_wp2_with fail
        refine HA1.out.mono ?_
        rintro e w3 ⟨rfl, rfl⟩
        clear HA1
        go_wp2
        go_round
        case rel => exact ⟨i + 1, by omega, by go_num, HX⟩
        case measure => simp [intOf]; omega
      · have z2 : (k == 2) = false := beq_eq_false_iff_ne.2 fun e => h2 (mrk_two.2 e)
        rw [hp] at HP
        clear h2 HT
        have HA1 := HIa false ha
        clear HIa ha
        clear HIb
        have HX : Hid (fchk L (mrF f) = 3) := by rw [Hid, HS.out, HE.out, HN.out, hx]; rfl
        clear hx HN hn
        go_wp2_with fail
        refine HP.out.mono ?_
        rintro e w3 ⟨rfl, rfl⟩
        clear HP
        go_wp2_with fail
        refine HA1.out.mono ?_
        rintro e w3 ⟨rfl, rfl⟩
        clear HA1
        go_wp2
        go_ret
        exact ⟨by rw [HX.out]; rfl, rfl⟩
      · have z2 : (k == 2) = false := beq_eq_false_iff_ne.2 fun e => h2 (mrk_two.2 e)
        rw [hp] at HP
        clear h2 HT
        have HA1 := HIa true ha
        clear HIa ha
        have HB1 := HIb false hb
        clear HIb hb
        have HX : Hid (fchk L (mrF f) = 3) := by rw [Hid, HS.out, HE.out, HN.out, hx]; rfl
        clear hx HN hn
        go_wp2_with fail
        refine HP.out.mono ?_
        rintro e w3 ⟨rfl, rfl⟩
        clear HP
        go_wp2_with fail
        refine HA1.out.mono ?_
        rintro e w3 ⟨rfl, rfl⟩
        clear HA1
        go_wp2_with fail
        refine HB1.out.mono ?_
        rintro e w3 ⟨rfl, rfl⟩
        clear HB1
        go_wp2
        go_ret
        exact ⟨by rw [HX.out]; rfl, rfl⟩
      · have z2 : (k == 2) = false := beq_eq_false_iff_ne.2 fun e => h2 (mrk_two.2 e)
        rw [hp] at HP
        clear h2 HT
        have HA1 := HIa true ha
        clear HIa ha
        have HB1 := HIb true hb
        clear HIb hb
        have HX : Hid (fscan L 0 ((mrF f).drop 0) = fscan L (i + 1) ((mrF f).drop (i + 1))) := by rw [Hid, HE.out, HN.out, hx]; rfl
        clear hx HN hn
        go_wp2_with fail
        refine HP.out.mono ?_
        rintro e w3 ⟨rfl, rfl⟩
        clear HP
        go_wp2_with fail
        refine HA1.out.mono ?_
        rintro e w3 ⟨rfl, rfl⟩
        clear HA1
        go_wp2_with fail
        refine HB1.out.mono ?_
        rintro e w3 ⟨rfl, rfl⟩
        clear HB1
        go_wp2
        go_round
        case rel => exact ⟨i + 1, by omega, by go_num, HX⟩
        case measure => simp [intOf]; omega
    · obtain rfl : i = f.length := by omega
      have HX : Hid (fchk L (mrF f) = 0) := by rw [Hid, HS.out, HE.out, ← mrF_length f, fscan_end]
      go_wp2
      go_ret
      exact ⟨by rw [HX.out]; rfl, rfl⟩
end Go.Proofs.YtdkbdoogjehkfaaDoor.Fm
