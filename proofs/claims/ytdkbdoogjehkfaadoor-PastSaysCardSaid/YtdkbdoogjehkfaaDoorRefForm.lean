/- The walks of the reference's parts and Form. -/
import Derived.Test.YtdkbdoogjehkfaaDoorFormW
import Derived.Test.YtdkbdoogjehkfaaDoorRefWord
namespace Go.Proofs.YtdkbdoogjehkfaaDoor.Fm
open Go.RowKit Go.IntWalk Go.Proofs.YtdkbdoogjehkfaaDoor.Wd Go.Proofs.YtdkbdoogjehkfaaDoor.Wo

theorem in2_any (x lo hi : Int) (w : World) (r : Bool) (hr : decide (lo ≤ x ∧ x ≤ hi) = r) : Calls Tryd.prog 22 #[.int .i64 x, .int .i64 lo, .int .i64 hi] w fun e w' => e = .returned (.bool r) ∧ w' = w := by
  by_cases h1 : lo ≤ x
  · by_cases h2 : x ≤ hi
    · obtain rfl : r = true := by rw [← hr]; exact decide_eq_true ⟨h1, h2⟩
      clear hr
      go_enter Tryd.func22, Tryd.ntmps22
      go_wp2
      go_ret
      exact ⟨rfl, rfl⟩
    · obtain rfl : r = false := by rw [← hr]; exact decide_eq_false fun k => h2 k.2
      clear hr
      go_enter Tryd.func22, Tryd.ntmps22
      go_wp2
      go_ret
      exact ⟨rfl, rfl⟩
  · obtain rfl : r = false := by rw [← hr]; exact decide_eq_false fun k => h1 k.1
    clear hr
    go_enter Tryd.func22, Tryd.ntmps22
    go_wp2
    go_ret
    exact ⟨rfl, rfl⟩
def prt (k : Int) : Int := if 0 ≤ k ∧ k ≤ 9 then ops k else -1
theorem parts_any (k : Int) (w : World) : Calls Tryd.prog 23 #[.int .i64 k, .bool false] w fun e w' => e = .returned (.int .i64 (prt k)) ∧ w' = w := by
  by_cases h : k < 0 ∨ 9 < k
  · have e : prt k = -1 := by unfold prt; rw [if_neg (by omega)]
    rw [e]
    clear e
    have z0 : (k == 0) = false := beq_eq_false_iff_ne.2 (by omega)
    have z1 : (k == 1) = false := beq_eq_false_iff_ne.2 (by omega)
    have z2 : (k == 2) = false := beq_eq_false_iff_ne.2 (by omega)
    have z3 : (k == 3) = false := beq_eq_false_iff_ne.2 (by omega)
    have z4 : (k == 4) = false := beq_eq_false_iff_ne.2 (by omega)
    have z5 : (k == 5) = false := beq_eq_false_iff_ne.2 (by omega)
    have z6 : (k == 6) = false := beq_eq_false_iff_ne.2 (by omega)
    have z7 : (k == 7) = false := beq_eq_false_iff_ne.2 (by omega)
    have z8 : (k == 8) = false := beq_eq_false_iff_ne.2 (by omega)
    have z9 : (k == 9) = false := beq_eq_false_iff_ne.2 (by omega)
    clear h
    go_enter Tryd.func23, Tryd.ntmps23
    go_wp2
    go_ret
    exact ⟨rfl, rfl⟩
  · have : k = 0 ∨ k = 1 ∨ k = 2 ∨ k = 3 ∨ k = 4 ∨ k = 5 ∨ k = 6 ∨ k = 7 ∨ k = 8 ∨ k = 9 := by omega
    clear h
    rcases this with rfl | rfl | rfl | rfl | rfl | rfl | rfl | rfl | rfl | rfl
    all_goals
      go_enter Tryd.func23, Tryd.ntmps23
      go_wp2
      go_ret
      exact ⟨rfl, rfl⟩
theorem fits_false {i : Nat} {x : Int} : fits i x false = decide (x = 0) := by unfold fits; rw [if_neg (by decide)]
theorem fits_true {i : Nat} {x : Int} : fits i x true = decide (0 ≤ x ∧ x ≤ (i : Int) - 1) := by
  unfold fits
  rw [if_pos rfl, Bool.eq_iff_iff]
  simp
  omega
theorem setOk_two {L a b : Int} : inR L (2, a, b) = decide (setOk L a) := by
  show (if (2 : Int) = 2 then _ else _) = _
  rw [if_pos rfl, Bool.eq_iff_iff]
  rw [decide_eq_true_eq]
  unfold setOk
  simp
/-- What the document's answer asks of a node, way by way. -/
theorem node_ways (L : Int) (i : Nat) (k a b : Int) :
    (prt k = -1 ∧ nerr L i (k, a, b) = 1) ∨
    (k = 2 ∧ prt k = 0 ∧ ((decide (setOk L a) = false ∧ nerr L i (k, a, b) = 1) ∨ (decide (setOk L a) = true ∧ ((b ≠ 0 ∧ nerr L i (k, a, b) = 3) ∨ (b = 0 ∧ nerr L i (k, a, b) = 0))))) ∨
    (k ≠ 2 ∧ ((prt k = 0 ∧ ((a ≠ 0 ∧ nerr L i (k, a, b) = 3) ∨ (a = 0 ∧ ((b ≠ 0 ∧ nerr L i (k, a, b) = 3) ∨ (b = 0 ∧ nerr L i (k, a, b) = 0))))) ∨
      (prt k = 1 ∧ ((b ≠ 0 ∧ nerr L i (k, a, b) = 3) ∨ (b = 0 ∧ ((decide (0 ≤ a ∧ a ≤ (i : Int) - 1) = false ∧ nerr L i (k, a, b) = 3) ∨ (decide (0 ≤ a ∧ a ≤ (i : Int) - 1) = true ∧ nerr L i (k, a, b) = 0))))) ∨
      (prt k = 2 ∧ ((decide (0 ≤ a ∧ a ≤ (i : Int) - 1) = false ∧ nerr L i (k, a, b) = 3) ∨ (decide (0 ≤ a ∧ a ≤ (i : Int) - 1) = true ∧
        ((decide (0 ≤ b ∧ b ≤ (i : Int) - 1) = false ∧ nerr L i (k, a, b) = 3) ∨ (decide (0 ≤ b ∧ b ≤ (i : Int) - 1) = true ∧ nerr L i (k, a, b) = 0))))))) := by
  have hrr : ∀ r s : Bool, inR L (k, a, b) = r → shp i (k, a, b) = s → nerr L i (k, a, b) = if r then (if s then 0 else 3) else 1 := fun r s h1 h2 => by unfold nerr; rw [h1, h2]
  have hshp : shp i (k, a, b) = ((decide (k = 2) || fits i a (decide (1 ≤ ops k))) && fits i b (decide (ops k = 2))) := rfl
  by_cases hk : 0 ≤ k ∧ k ≤ 9
  · have hp : prt k = ops k := by unfold prt; rw [if_pos hk]
    by_cases h2 : k = 2
    · subst h2
      right; left
      refine ⟨rfl, by decide, ?_⟩
      rcases hs : decide (setOk L a) with _ | _
      · left; exact ⟨rfl, hrr false _ (by rw [setOk_two, hs]) rfl⟩
      · right
        refine ⟨rfl, ?_⟩
        rw [ops_two, decide_eq_true rfl, Bool.true_or, Bool.true_and, show decide ((0 : Int) = 2) = false from rfl, fits_false] at hshp
        by_cases hb : b = 0
        · right; exact ⟨hb, hrr true true (by rw [setOk_two, hs]) (by rw [hshp]; exact decide_eq_true hb)⟩
        · left; exact ⟨hb, hrr true false (by rw [setOk_two, hs]) (by rw [hshp]; exact decide_eq_false hb)⟩
    · right; right
      refine ⟨h2, ?_⟩
      have hin : inR L (k, a, b) = true := by
        show (if k = 2 then _ else _) = _
        rw [if_neg h2]; simp [hk]
      rw [hp]
      rw [decide_eq_false h2, Bool.false_or] at hshp
      rcases ops_range k with ho | ho | ho
      · left
        rw [ho, show decide ((1 : Int) ≤ 0) = false from rfl, show decide ((0 : Int) = 2) = false from rfl, fits_false, fits_false] at hshp
        refine ⟨ho, ?_⟩
        by_cases ha : a = 0
        · right
          refine ⟨ha, ?_⟩
          by_cases hb : b = 0
          · right; exact ⟨hb, hrr true true hin (by rw [hshp]; simp [ha, hb])⟩
          · left; exact ⟨hb, hrr true false hin (by rw [hshp]; simp [hb])⟩
        · left; exact ⟨ha, hrr true false hin (by rw [hshp]; simp [ha])⟩
      · right; left
        rw [ho, show decide ((1 : Int) ≤ 1) = true from rfl, show decide ((1 : Int) = 2) = false from rfl, fits_false, fits_true] at hshp
        refine ⟨ho, ?_⟩
        by_cases hb : b = 0
        · right
          refine ⟨hb, ?_⟩
          rcases ha : decide (0 ≤ a ∧ a ≤ (i : Int) - 1) with _ | _
          · left; exact ⟨rfl, hrr true false hin (by rw [hshp, ha]; rfl)⟩
          · right; exact ⟨rfl, hrr true true hin (by rw [hshp, ha]; simp [hb])⟩
        · left; exact ⟨hb, hrr true false hin (by rw [hshp]; simp [hb])⟩
      · right; right
        rw [ho, show decide ((1 : Int) ≤ 2) = true from rfl, show decide ((2 : Int) = 2) = true from rfl, fits_true, fits_true] at hshp
        refine ⟨ho, ?_⟩
        rcases ha : decide (0 ≤ a ∧ a ≤ (i : Int) - 1) with _ | _
        · left; exact ⟨rfl, hrr true false hin (by rw [hshp, ha]; rfl)⟩
        · right
          refine ⟨rfl, ?_⟩
          rcases hb : decide (0 ≤ b ∧ b ≤ (i : Int) - 1) with _ | _
          · left; exact ⟨rfl, hrr true false hin (by rw [hshp, ha, hb]; rfl)⟩
          · right; exact ⟨rfl, hrr true true hin (by rw [hshp, ha, hb]; rfl)⟩
  · left
    have h2 : k ≠ 2 := fun e => hk (by omega)
    refine ⟨by unfold prt; rw [if_neg hk], hrr false _ ?_ rfl⟩
    show (if k = 2 then _ else _) = _
    rw [if_neg h2]
    simp
    omega
set_option maxRecDepth 100000 in
set_option maxHeartbeats 4000000 in
theorem rform_any (L : Int) (A : Option Addr) (c : Nat) (f : List Nd) (w : World) (hA : NodesAt w w.heap.size A f) (hlen : f.length ≤ 9223372036854775807) :
    Calls Tryd.prog 6 #[.int .i64 L, .slice A f.length c, .bool false] w fun e w' => Hid (e = .returned (.int .i64 (fchk L f))) ∧ w' = w := by
  by_cases g : L < 1 ∨ 6 < L
  · have HL := Lib.hid (in2_any L 1 6 w false (decide_eq_false (by omega)))
    have HR := Lib.hid (fchk_letters (f := f) g)
    clear g hA hlen
    generalize f.length = k at *
    go_enter Tryd.func6, Tryd.ntmps6
    go_wp2_with fail
    refine HL.out.mono ?_
    rintro e w2 ⟨rfl, rfl⟩
    clear HL
    go_wp2
    go_ret
    exact ⟨by rw [HR.out]; rfl, rfl⟩
  have HL := Lib.hid (in2_any L 1 6 w true (decide_eq_true (by omega)))
  by_cases g2 : f.length = 0
  · have HR := Lib.hid (fchk_none g g2)
    rw [g2]
    clear g hA hlen g2
    go_enter Tryd.func6, Tryd.ntmps6
    go_wp2_with fail
    refine HL.out.mono ?_
    rintro e w2 ⟨rfl, rfl⟩
    clear HL
    go_wp2
    go_ret
    exact ⟨by rw [HR.out]; rfl, rfl⟩
  by_cases g3 : 40 < f.length
  · have HR := Lib.hid (fchk_many g g3)
    clear g hA g2
    generalize f.length = k at *
    go_enter Tryd.func6, Tryd.ntmps6
    go_wp2_with fail
    refine HL.out.mono ?_
    rintro e w2 ⟨rfl, rfl⟩
    clear HL
    go_wp2
    go_ret
    exact ⟨by rw [HR.out]; rfl, rfl⟩
  have HS := Lib.hid (fchk_scan g g2 g3)
  have l1 : 1 ≤ L := by omega
  have l6 : L ≤ 6 := by omega
  have h0 : 0 < f.length := by omega
  have q1 : ((f.length : Int) == 0) = false := beq_eq_false_iff_ne.2 (by omega)
  have q2 : decide ((40 : Int) < (f.length : Int)) = false := decide_eq_false (by omega)
  have HA := Lib.hid hA
  have HSM := Lib.hid hA.2
  clear g g2 hA
  go_enter Tryd.func6, Tryd.ntmps6
  go_wp2_with fail
  refine HL.out.mono ?_
  rintro e w2 ⟨rfl, rfl⟩
  clear HL
  go_wp2
  go_loop [7] (fun i => ∃ (k : Nat), k ≤ f.length ∧ i = .int .i64 k ∧ Hid (fscan L 0 (f.drop 0) = fscan L k (f.drop k))) (fun i => f.length - (intOf i).toNat)
  case atStart => exact ⟨0, by omega, rfl, (rfl : fscan L 0 (f.drop 0) = fscan L 0 (f.drop 0))⟩
  case round =>
    obtain ⟨i, hk, rfl, HE⟩ := hrel
    by_cases hlt : i < f.length
    · obtain ⟨n, hn⟩ : ∃ n, f[i]? = some n := ⟨_, List.getElem?_eq_getElem hlt⟩
      obtain ⟨ad, e, hadb, c0, c1, c2⟩ := HA.out.at_ hn
      subst e
      have hsm := HSM.out n (List.mem_of_getElem? hn)
      have HN := Lib.hid (fscan_at (L := L) hn)
      obtain ⟨k, a, b⟩ := n
      obtain ⟨⟨b1, b2⟩, ⟨b3, b4⟩, b5, b6⟩ := hsm
      simp only at c0 c1 c2 b1 b2 b3 b4 b5 b6
      have HP := Lib.hid (parts_any k w2)
      have HT := Lib.hid (refSet_any L a w2 l1 l6)
      have HIa := fun r h => Lib.hid (in2_any a 0 ((i : Int) - 1) w2 r h)
      have HIb := fun r h => Lib.hid (in2_any b 0 ((i : Int) - 1) w2 r h)
      rcases node_ways L i k a b with ⟨hp, hx⟩ | ⟨h2, hp, ⟨hs, hx⟩ | ⟨hs, ⟨hb, hx⟩ | ⟨hb, hx⟩⟩⟩ | ⟨h2, ⟨hp, ⟨ha, hx⟩ | ⟨ha, ⟨hb, hx⟩ | ⟨hb, hx⟩⟩⟩ | ⟨hp, ⟨hb, hx⟩ | ⟨hb, ⟨ha, hx⟩ | ⟨ha, hx⟩⟩⟩ | ⟨hp, ⟨ha, hx⟩ | ⟨ha, ⟨hb, hx⟩ | ⟨hb, hx⟩⟩⟩⟩
      · rw [hp] at HP
        clear HT HIa HIb
        have HX : Hid (fchk L f = 1) := by rw [Hid, HS.out, HE.out, HN.out, hx]; rfl
        clear hx HN hn
        go_wp2_with fail
        refine HP.out.mono ?_
        rintro e w3 ⟨rfl, rfl⟩
        clear HP
        go_wp2
        go_ret
        exact ⟨by rw [HX.out]; rfl, rfl⟩
      · subst h2
        rw [hp] at HP
        have HT2 : Hid (Calls Tryd.prog 24 #[.int .i64 L, .int .i64 a] w2 fun e w' => e = .returned (.bool false) ∧ w' = w2) := HT.out.mono fun e w' ⟨h, h3⟩ => ⟨by rw [h.out, hs], h3.symm⟩
        clear HT HIa HIb hs
        have HX : Hid (fchk L f = 1) := by rw [Hid, HS.out, HE.out, HN.out, hx]; rfl
        clear hx HN hn
        go_wp2_with fail
        refine HP.out.mono ?_
        rintro e w3 ⟨rfl, rfl⟩
        clear HP
        go_wp2_with fail
        refine HT2.out.mono ?_
        rintro e w3 ⟨rfl, rfl⟩
        clear HT2
        go_wp2
        go_ret
        exact ⟨by rw [HX.out]; rfl, rfl⟩
      · subst h2
        rw [hp] at HP
        have HT2 : Hid (Calls Tryd.prog 24 #[.int .i64 L, .int .i64 a] w2 fun e w' => e = .returned (.bool true) ∧ w' = w2) := HT.out.mono fun e w' ⟨h, h3⟩ => ⟨by rw [h.out, hs], h3.symm⟩
        clear HT HIa HIb hs
        have zb : (b == 0) = false := beq_eq_false_iff_ne.2 hb
        have yb : (b != 0) = true := by simp [bne, zb]
        clear hb
        have HX : Hid (fchk L f = 3) := by rw [Hid, HS.out, HE.out, HN.out, hx]; rfl
        clear hx HN hn
        go_wp2_with fail
        refine HP.out.mono ?_
        rintro e w3 ⟨rfl, rfl⟩
        clear HP
        go_wp2_with fail
        refine HT2.out.mono ?_
        rintro e w3 ⟨rfl, rfl⟩
        clear HT2
        go_wp2
        go_ret
        exact ⟨by rw [HX.out]; rfl, rfl⟩
      · subst h2
        rw [hp] at HP
        have HT2 : Hid (Calls Tryd.prog 24 #[.int .i64 L, .int .i64 a] w2 fun e w' => e = .returned (.bool true) ∧ w' = w2) := HT.out.mono fun e w' ⟨h, h3⟩ => ⟨by rw [h.out, hs], h3.symm⟩
        clear HT HIa HIb hs
        subst hb
        have HX : Hid (fscan L 0 (f.drop 0) = fscan L (i + 1) (f.drop (i + 1))) := by rw [Hid, HE.out, HN.out, hx]; rfl
        clear hx HN hn
        go_wp2_with fail
        refine HP.out.mono ?_
        rintro e w3 ⟨rfl, rfl⟩
        clear HP
        go_wp2_with fail
        refine HT2.out.mono ?_
        rintro e w3 ⟨rfl, rfl⟩
        clear HT2
        go_wp2
        go_round
        case rel => exact ⟨i + 1, by omega, by go_num, HX⟩
        case measure => simp [intOf]; omega
      · have z2 : (k == 2) = false := beq_eq_false_iff_ne.2 h2
        rw [hp] at HP
        clear h2 HT
        clear HIa HIb
        have za : (a == 0) = false := beq_eq_false_iff_ne.2 ha
        have ya : (a != 0) = true := by simp [bne, za]
        clear ha
        have HX : Hid (fchk L f = 3) := by rw [Hid, HS.out, HE.out, HN.out, hx]; rfl
        clear hx HN hn
        go_wp2_with fail
        refine HP.out.mono ?_
        rintro e w3 ⟨rfl, rfl⟩
        clear HP
        go_wp2
        go_ret
        exact ⟨by rw [HX.out]; rfl, rfl⟩
      · have z2 : (k == 2) = false := beq_eq_false_iff_ne.2 h2
        rw [hp] at HP
        clear h2 HT
        clear HIa HIb
        subst ha
        have zb : (b == 0) = false := beq_eq_false_iff_ne.2 hb
        have yb : (b != 0) = true := by simp [bne, zb]
        clear hb
        have HX : Hid (fchk L f = 3) := by rw [Hid, HS.out, HE.out, HN.out, hx]; rfl
        clear hx HN hn
        go_wp2_with fail
        refine HP.out.mono ?_
        rintro e w3 ⟨rfl, rfl⟩
        clear HP
        go_wp2
        go_ret
        exact ⟨by rw [HX.out]; rfl, rfl⟩
      · have z2 : (k == 2) = false := beq_eq_false_iff_ne.2 h2
        rw [hp] at HP
        clear h2 HT
        clear HIa HIb
        subst ha
        subst hb
        have HX : Hid (fscan L 0 (f.drop 0) = fscan L (i + 1) (f.drop (i + 1))) := by rw [Hid, HE.out, HN.out, hx]; rfl
        clear hx HN hn
        go_wp2_with fail
        refine HP.out.mono ?_
        rintro e w3 ⟨rfl, rfl⟩
        clear HP
        go_wp2
        go_round
        case rel => exact ⟨i + 1, by omega, by go_num, HX⟩
        case measure => simp [intOf]; omega
      · have z2 : (k == 2) = false := beq_eq_false_iff_ne.2 h2
        rw [hp] at HP
        clear h2 HT
        clear HIa HIb
        have zb : (b == 0) = false := beq_eq_false_iff_ne.2 hb
        have yb : (b != 0) = true := by simp [bne, zb]
        clear hb
        have HX : Hid (fchk L f = 3) := by rw [Hid, HS.out, HE.out, HN.out, hx]; rfl
        clear hx HN hn
        go_wp2_with fail
        refine HP.out.mono ?_
        rintro e w3 ⟨rfl, rfl⟩
        clear HP
        go_wp2
        go_ret
        exact ⟨by rw [HX.out]; rfl, rfl⟩
      · have z2 : (k == 2) = false := beq_eq_false_iff_ne.2 h2
        rw [hp] at HP
        clear h2 HT
        subst hb
        have HA1 := HIa false ha
        clear HIa ha
        clear HIb
        have HX : Hid (fchk L f = 3) := by rw [Hid, HS.out, HE.out, HN.out, hx]; rfl
        clear hx HN hn
        go_wp2_with fail
        refine HP.out.mono ?_
        rintro e w3 ⟨rfl, rfl⟩
        clear HP
        go_wp2_with fail
        refine HA1.out.mono ?_
        rintro e w3 ⟨rfl, rfl⟩
        clear HA1
        go_wp2
        go_ret
        exact ⟨by rw [HX.out]; rfl, rfl⟩
      · have z2 : (k == 2) = false := beq_eq_false_iff_ne.2 h2
        rw [hp] at HP
        clear h2 HT
        subst hb
        have HA1 := HIa true ha
        clear HIa ha
        clear HIb
        have HX : Hid (fscan L 0 (f.drop 0) = fscan L (i + 1) (f.drop (i + 1))) := by rw [Hid, HE.out, HN.out, hx]; rfl
        clear hx HN hn
        go_wp2_with fail
        refine HP.out.mono ?_
        rintro e w3 ⟨rfl, rfl⟩
        clear HP
        go_wp2_with fail
        refine HA1.out.mono ?_
        rintro e w3 ⟨rfl, rfl⟩
        clear HA1
        go_wp2
        go_round
        case rel => exact ⟨i + 1, by omega, by go_num, HX⟩
        case measure => simp [intOf]; omega
      · have z2 : (k == 2) = false := beq_eq_false_iff_ne.2 h2
        rw [hp] at HP
        clear h2 HT
        have HA1 := HIa false ha
        clear HIa ha
        clear HIb
        have HX : Hid (fchk L f = 3) := by rw [Hid, HS.out, HE.out, HN.out, hx]; rfl
        clear hx HN hn
        go_wp2_with fail
        refine HP.out.mono ?_
        rintro e w3 ⟨rfl, rfl⟩
        clear HP
        go_wp2_with fail
        refine HA1.out.mono ?_
        rintro e w3 ⟨rfl, rfl⟩
        clear HA1
        go_wp2
        go_ret
        exact ⟨by rw [HX.out]; rfl, rfl⟩
      · have z2 : (k == 2) = false := beq_eq_false_iff_ne.2 h2
        rw [hp] at HP
        clear h2 HT
        have HA1 := HIa true ha
        clear HIa ha
        have HB1 := HIb false hb
        clear HIb hb
        have HX : Hid (fchk L f = 3) := by rw [Hid, HS.out, HE.out, HN.out, hx]; rfl
        clear hx HN hn
        go_wp2_with fail
        refine HP.out.mono ?_
        rintro e w3 ⟨rfl, rfl⟩
        clear HP
        go_wp2_with fail
        refine HA1.out.mono ?_
        rintro e w3 ⟨rfl, rfl⟩
        clear HA1
        go_wp2_with fail
        refine HB1.out.mono ?_
        rintro e w3 ⟨rfl, rfl⟩
        clear HB1
        go_wp2
        go_ret
        exact ⟨by rw [HX.out]; rfl, rfl⟩
      · have z2 : (k == 2) = false := beq_eq_false_iff_ne.2 h2
        rw [hp] at HP
        clear h2 HT
        have HA1 := HIa true ha
        clear HIa ha
        have HB1 := HIb true hb
        clear HIb hb
        have HX : Hid (fscan L 0 (f.drop 0) = fscan L (i + 1) (f.drop (i + 1))) := by rw [Hid, HE.out, HN.out, hx]; rfl
        clear hx HN hn
        go_wp2_with fail
        refine HP.out.mono ?_
        rintro e w3 ⟨rfl, rfl⟩
        clear HP
        go_wp2_with fail
        refine HA1.out.mono ?_
        rintro e w3 ⟨rfl, rfl⟩
        clear HA1
        go_wp2_with fail
        refine HB1.out.mono ?_
        rintro e w3 ⟨rfl, rfl⟩
        clear HB1
        go_wp2
        go_round
        case rel => exact ⟨i + 1, by omega, by go_num, HX⟩
        case measure => simp [intOf]; omega
    · obtain rfl : i = f.length := by omega
      have HX : Hid (fchk L f = 0) := by rw [Hid, HS.out, HE.out, fscan_end]
      go_wp2
      go_ret
      exact ⟨by rw [HX.out]; rfl, rfl⟩
end Go.Proofs.YtdkbdoogjehkfaaDoor.Fm
