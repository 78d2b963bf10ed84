/- The walks of package past. -/
import Derived.Test.YtciopfiddfmckaaDoorPastM
import Derived.Test.YtciopfiddfmckaaDoorMeanE
import Derived.Test.YtciopfiddfmckaaDoorMeanL
import Derived.Test.YtciopfiddfmckaaDoorWordL
namespace Go.Proofs.YtciopfiddfmckaaDoor.Fm
open Go.RowKit Go.IntWalk Go.Proofs.YtciopfiddfmckaaDoor.Wd Go.Proofs.YtciopfiddfmckaaDoor.Wo

theorem mirrorOf_any (k : Int) (w : World) : Calls Tryd.prog 43 #[.int .i64 k] w fun e w' => e = .returned (.int .i64 (mrk k)) ∧ w' = w := by
  by_cases h : k = 10 ∨ k = 11 ∨ k = 6 ∨ k = 7 ∨ k = 8 ∨ k = 9
  · rcases h with rfl | rfl | rfl | rfl | rfl | rfl
    all_goals
      go_enter Tryd.func43, Tryd.ntmps43
      go_wp2
      go_ret
      exact ⟨rfl, rfl⟩
  · have e : mrk k = k := by unfold mrk; rw [if_neg (by omega), if_neg (by omega), if_neg (by omega)]
    rw [e]
    have q1 : (k == 10) = false := beq_eq_false_iff_ne.2 (by omega)
    have q2 : (k == 11) = false := beq_eq_false_iff_ne.2 (by omega)
    have q3 : (k == 6) = false := beq_eq_false_iff_ne.2 (by omega)
    have q4 : (k == 7) = false := beq_eq_false_iff_ne.2 (by omega)
    have q5 : (k == 8) = false := beq_eq_false_iff_ne.2 (by omega)
    have q6 : (k == 9) = false := beq_eq_false_iff_ne.2 (by omega)
    clear h e
    go_enter Tryd.func43, Tryd.ntmps43
    go_wp2
    go_ret
    exact ⟨rfl, rfl⟩
theorem mrN_small {n : Nd} (h : NdSmall n) : NdSmall (mrN n) := by
  obtain ⟨⟨h1, h2⟩, h3, h4⟩ := h
  refine ⟨?_, h3, h4⟩
  show Sml (mrk n.1)
  unfold mrk Sml
  split
  · omega
  · split
    · omega
    · split
      · omega
      · exact ⟨h1, h2⟩
theorem mrF_small {f : List Nd} (h : ∀ m ∈ f, NdSmall m) : ∀ m ∈ mrF f, NdSmall m := by
  intro m hm
  obtain ⟨n, hn, rfl⟩ := List.mem_map.1 hm
  exact mrN_small (h n hn)
theorem min_two (x y v : Int) (hv : v = min x y) (W : World) : (Builtin.min_ #[3, 3] 3 #[.int .i64 x, .int .i64 y]).run Tryd.prog W = .ok (.int .i64 v) W := by
  have e : v = if y < x then y else x := by
    rw [hv]; split
    all_goals omega
  rw [e]
  simp [Builtin.min_, Builtin.min2, List.foldlM]
/-- What Mirror gives. -/
def MirIs (L : Int) (f : List Nd) (w : World) (e : Ending) (w' : World) : Prop :=
  ∃ v, e = .returned (.tuple #[v, errV (fchk L (mrF f))]) ∧ ((fchk L (mrF f) = 0 ∧ Own w w' [eNodes v (mrF f)] []) ∨ (fchk L (mrF f) ≠ 0 ∧ v = .slice none 0 0 ∧ Below w.heap.size w w'))
set_option maxRecDepth 100000 in
set_option maxHeartbeats 4000000 in
theorem pmirror_any (L : Int) (A : Option Addr) (c : Nat) (f : List Nd) (w : World) (hL : Small L) (hA : NodesAt w w.heap.size A f) (hlen : f.length ≤ 9223372036854775807) (hc : f.length ≤ c) :
    Calls Tryd.prog 22 #[.int .i64 L, .slice A f.length c] w fun e w' => Hid (MirIs L f w e w') := by
  obtain ⟨K, hK⟩ : ∃ K, K = min f.length 41 := ⟨_, rfl⟩
  have hK41 : K ≤ 41 := by omega
  have hKf : K ≤ f.length := by omega
  have hmin : ((K : Nat) : Int) = min (f.length : Int) 41 := by omega
  have HMin := Lib.hid (fun W => min_two (f.length : Int) 41 K hmin W)
  have HO0 : Hid (Own w w [eNodes (.slice none 0 0) ((mrF f).take 0)] []) := (own_start w).nil 51 3
  have HA := Lib.hid (fun wr (h : Below w.heap.size w wr) => hA.on h)
  have HSm := Lib.hid (mrF_small hA.2)
  have HT : Hid ((mrF f).take K = (mrF f).take 41) := by
    rw [Hid, hK]
    by_cases h : f.length ≤ 41
    · rw [Nat.min_eq_left h, List.take_of_length_le (by rw [mrF_length]; omega), List.take_of_length_le (by rw [mrF_length]; omega)]
    · rw [Nat.min_eq_right (by omega)]
  have HKf := Lib.hid hKf
  have HKm := Lib.hid hK
  have hL2 := Lib.hid hL
  have hc1 : (K : Int) ≤ (f.length : Int) := by omega
  have hc2 : K ≤ c := by omega
  clear hA hK hL hmin
  have hmr := fun W => HMin.out W
  obtain ⟨N, hN⟩ : ∃ N, f.length = N := ⟨_, rfl⟩
  have HN := Lib.hid hN
  rw [hN] at hlen hc hc1 HMin hmr ⊢
  clear hN hKf
  go_enter Tryd.func22, Tryd.ntmps22
  go_wp2
  go_loopw [6, 16] (fun v s wr => ∃ (k : Nat), k ≤ K ∧ s = .int .i64 k ∧ Hid (Own w wr [eNodes v ((mrF f).take k)] [])) (fun _ s _ => K - (intOf s).toNat)
  case atStart => exact ⟨0, by omega, rfl, HO0⟩
  case round =>
    clear HO0
    obtain ⟨k, hk, rfl, HO⟩ := hrel
    by_cases hlt : k < K
    · obtain ⟨nd, hnd⟩ : ∃ n, f[k]? = some n := ⟨_, List.getElem?_eq_getElem (by have := HKf.out; omega)⟩
      obtain ⟨ad, e, hadb, c0, c1, c2⟩ := (HA.out _ HO.out.below).at_ hnd
      subst e
      have HS := Lib.hid (mrF_snoc hnd)
      obtain ⟨x, y, z⟩ := nd
      simp only at c0 c1 c2
      have e1 : (k : Int) < (K : Int) := by omega
      have HR := Lib.hid (fun W => mirrorOf_any x W)
      have hln : ((mrF f).take k).length < 1099511627776 := by rw [List.length_take]; omega
      obtain ⟨P, hP⟩ : ∃ P, P = (mrF f).take k := ⟨_, rfl⟩
      rw [← hP] at HS HO hln
      clear hP hnd
      have HS2 : Hid (P ++ [(mrk x, y, z)] = (mrF f).take (k + 1)) := HS.out.symm
      clear HS
      generalize mrk x = x' at *
      go_wp2_with fail
      refine (HR.out _).mono ?_
      rintro e w2 ⟨rfl, rfl⟩
      clear HR
      have HSz := Lib.hid (fun o : Obj => show (wr.alloc o).heap.size = wr.heap.size + 1 by simp)
      go_wp2_with (at_builtin; refine own_node (m := (x', y, z)) (by rfl) _ _ (by rfl) (by rfl) ((HO.out).alloc (.cells #[.int .i64 x', .int .i64 y, .int .i64 z] 51)) (by rw [HSz.out]; rfl) hln ?_)
      intro g6 cap6 w6 ho6
      have HE : Hid (Own w w6 [eNodes (.slice (some ⟨g6, 0, none⟩) (P.length + 1) cap6) ((mrF f).take (k + 1))] []) := by
        rw [← HS2.out]; exact ho6
      clear ho6 HO HS2 HSz hln
      go_wp2
      go_roundw
      case rel => exact ⟨k + 1, by omega, by go_num, HE⟩
      case measure => simp [intOf]; omega
    · obtain rfl : k = K := by omega
      have hsm : ∀ m ∈ (mrF f).take 41, NdSmall m := fun m hm => HSm.out m (List.mem_of_mem_take hm)
      have ho2 := HO.out
      rw [HT.out] at ho2
      have HO2 := Lib.hid ho2
      clear ho2
      obtain ⟨A7, c7, rfl, h1, h2, h3⟩ := own_nodes HO2.out List.mem_cons_self hsm
      have HC := fcheck_any L A7 c7 _ wr hL2.out h3 (by rw [List.length_take]; omega)
      rw [fchk_cut] at HC
      have HB := Lib.hid HO2.out.below
      generalize h7 : ((mrF f).take 41).length = n7 at *
      have HC := Lib.hid HC
      clear h3 h1 h2 hsm HO
      by_cases hz : fchk L (mrF f) = 0
      · have hle : (mrF f).take 41 = mrF f := List.take_of_length_le (by have := (fchk_iff.1 hz).le; omega)
        rw [hz] at HC
        have HG : Hid (∀ w2, Below wr.heap.size wr w2 → MirIs L f w (.returned (.tuple #[.slice A7 n7 c7, .nilIface])) w2) := fun w2 hb => ⟨_, by rw [hz]; rfl, .inl ⟨hz, by have := HO2.out.on hb; rwa [hle] at this⟩⟩
        clear hle HO2 hz h7
        go_wp2_with fail
        refine HC.out.mono ?_
        rintro e w2 ⟨he, hb2⟩
        obtain rfl := he.out
        have HR := Lib.hid (HG.out w2 hb2)
        clear HC he hb2 HG
        simp only [errV]
        go_wp2
        go_ret2
        exact HR.out
      · have HG : Hid (∀ w2, Below wr.heap.size wr w2 → MirIs L f w (.returned (.tuple #[.slice none 0 0, errV (fchk L (mrF f))])) w2) := fun w2 hb => ⟨_, rfl, .inr ⟨hz, rfl, HB.out.trans (hb.mono HB.out.size)⟩⟩
        obtain ⟨E, hE⟩ : ∃ E, E = errV (fchk L (mrF f)) := ⟨_, rfl⟩
        rw [← hE] at HG HC
        rw [errV_pos hz] at hE
        subst hE
        generalize (fchk L (mrF f) : Int) = q at *
        clear HO2 hz h7
        go_wp2_with fail
        refine HC.out.mono ?_
        rintro e w2 ⟨he, hb2⟩
        obtain rfl := he.out
        have HR := Lib.hid (HG.out w2 hb2)
        clear HC he hb2 HG
        go_wp2
        go_ret2
        exact HR.out
/-! ### the contracts, by their two ways -/
theorem pmir_yes {L : Int} (hL : Small L) {f : List Nd} {n : Nat} (hn : f.length = n) (g : FGood L (mrF f)) (A : Option Addr) (c : Nat) (hc : n ≤ c) (W : World) (hA : NodesAt W W.heap.size A f) :
    Calls Tryd.prog 22 #[.int .i64 L, .slice A n c] W fun e w' => Hid (∃ A' c', e = .returned (.tuple #[.slice A' n c', .nilIface]) ∧ n ≤ c' ∧ c' ≤ 9223372036854775807 ∧ Hid (NodesAt w' w'.heap.size A' (mrF f))) ∧ Below W.heap.size W w' := by
  subst hn
  have hz := fchk_iff.2 g
  have h40 := g.le
  rw [mrF_length] at h40
  refine (pmirror_any L A c f W hL hA (by omega) hc).mono fun e w' he => ?_
  obtain ⟨v, rfl, ⟨_, ho⟩ | ⟨h, _⟩⟩ := he.out
  · obtain ⟨A7, c7, rfl, h1, h2, h3⟩ := own_nodes ho List.mem_cons_self (nds_small g)
    rw [hz, mrF_length]
    rw [mrF_length] at h1
    exact ⟨⟨A7, c7, rfl, h1, h2, h3⟩, ho.below⟩
  · exact absurd hz h
theorem pmir_no {L : Int} (hL : Small L) {f : List Nd} (hf : f.length ≤ 9223372036854775807) {n : Nat} (hn : f.length = n) (h : fchk L (mrF f) ≠ 0) (A : Option Addr) (c : Nat) (hc : n ≤ c) (W : World) (hA : NodesAt W W.heap.size A f) :
    Calls Tryd.prog 22 #[.int .i64 L, .slice A n c] W fun e w' => e = .returned (.tuple #[.slice none 0 0, errV (fchk L (mrF f))]) ∧ Below W.heap.size W w' := by
  subst hn
  refine (pmirror_any L A c f W hL hA hf hc).mono fun e w' he => ?_
  obtain ⟨v, rfl, ⟨h2, _⟩ | ⟨_, rfl, hb⟩⟩ := he.out
  · exact absurd h2 h
  · exact ⟨rfl, hb⟩
set_option maxRecDepth 100000 in
theorem pstart_yes {L : Int} (hL : Small L) {f : List Nd} {n : Nat} (hn : f.length = n) (g : FGood L (mrF f)) (A : Option Addr) (c : Nat) (hc : n ≤ c) (W : World) (hA : NodesAt W W.heap.size A f) :
    Calls Tryd.prog 24 #[.int .i64 L, .slice A n c] W fun e w' => Hid (∃ g, e = .returned (.tuple #[.slice (some ⟨g, 0, none⟩) n n, .nilIface]) ∧ Own W w' [eBools (.slice (some ⟨g, 0, none⟩) n n) (vec (mrF f) [])] []) := by
  have HM := Lib.hid (pmir_yes hL hn g A c hc W hA)
  have HE := Lib.hid (fun A c W hA => mend_any (L := L) A c (mrF f) W hA g)
  rw [mrF_length, hn] at HE
  clear hL hn g hA
  go_enter Tryd.func24, Tryd.ntmps24
  go_wp2_with fail
  refine HM.out.mono ?_
  rintro e w2 ⟨he, hb2⟩
  obtain ⟨A7, c7, rfl, _, _, hN⟩ := he.out
  have HB2 := Lib.hid hb2
  have HE2 := Lib.hid (HE.out A7 c7 w2 hN.out)
  clear HM he hb2 hN HE
  go_wp2_with fail
  refine HE2.out.mono ?_
  rintro e w3 he
  obtain ⟨g, rfl, ho⟩ := he.out
  have HO := Lib.hid (ho.base HB2.out)
  clear HE2 he ho HB2
  go_wp2
  go_ret2
  exact ⟨g, rfl, HO.out⟩
set_option maxRecDepth 100000 in
theorem pfeed_yes {L : Int} (hL : Small L) {f : List Nd} {n : Nat} (hn : f.length = n) (g : FGood L (mrF f)) {T : List Bool} (hT : T.length = n) {a : Int} (ha0 : 0 ≤ a) (haL : a < L) (A : Option Addr) (c : Nat) (hc : n ≤ c) (B : Option Addr) (cb : Nat) (W : World) (hA : NodesAt W W.heap.size A f) (hB : Df.BoolsAt W W.heap.size B T) :
    Calls Tryd.prog 25 #[.int .i64 L, .slice A n c, .slice B n cb, .int .i64 a] W fun e w' => Hid (∃ g, e = .returned (.tuple #[.slice (some ⟨g, 0, none⟩) n n, .nilIface]) ∧ Own W w' [eBools (.slice (some ⟨g, 0, none⟩) n n) (nxt (mrF f) T a)] []) := by
  have HM := Lib.hid (pmir_yes hL hn g A c hc W hA)
  have h6 := g.l6
  have HE := Lib.hid (fun A c W hA hB => mnah_any (L := L) A c (mrF f) B cb T a W hA g (by rw [mrF_length, hn, hT]) hB ha0 (by omega))
  rw [mrF_length, hn] at HE
  have HB := Lib.hid (fun W' (hb : Below W.heap.size W W') => hB.on hb)
  have h40 : n ≤ 40 := by have := g.le; rw [mrF_length] at this; omega
  have hdec : decide (a ≥ L) = false := decide_eq_false (by omega)
  have hdec2 : decide (L ≤ a) = false := decide_eq_false (by omega)
  have hd3 : decide (a < 0) = false := decide_eq_false (by omega)
  have hnn : ((n : Int) != (n : Int)) = false := bne_self_eq_false _
  clear hL hn g hA hB hT h6
  go_enter Tryd.func25, Tryd.ntmps25
  go_wp2_with fail
  refine HM.out.mono ?_
  rintro e w2 ⟨he, hb2⟩
  obtain ⟨A7, c7, rfl, _, _, hN⟩ := he.out
  have HE2 := Lib.hid (HE.out A7 c7 w2 hN.out (HB.out w2 hb2))
  have HB2 := Lib.hid hb2
  clear HM he hb2 hN HE HB
  go_wp2_with fail
  refine HE2.out.mono ?_
  rintro e w3 he
  obtain ⟨g, rfl, ho⟩ := he.out
  have HO := Lib.hid (ho.base HB2.out)
  clear HE2 he ho HB2
  go_wp2
  go_ret2
  exact ⟨g, rfl, HO.out⟩
set_option maxRecDepth 100000 in
theorem pholds_yes {L : Int} (hL : Small L) {f : List Nd} {z : List Int} {n M : Nat} (hn : f.length = n) (hM : z.length = M) (g : FGood L (mrF f)) (hz : Fine L z) (A : Option Addr) (c : Nat) (hc : n ≤ c) (B : Option Addr) (cb : Nat) (W : World) (hA : NodesAt W W.heap.size A f) (hB : IntsAt W W.heap.size B z) :
    Calls Tryd.prog 21 #[.int .i64 L, .slice A n c, .slice B M cb] W fun e w' => e = .returned (.tuple #[.bool (fval (mrF f) z.reverse), .nilIface]) ∧ Below W.heap.size W w' := by
  have HM := Lib.hid (pmir_yes hL hn g A c hc W hA)
  have HW := Lib.hid (fun W' (hb : Below W.heap.size W W') => mirror_ok (A := B) (c := cb) (w := W') hL (hB.on hb) hz)
  rw [hM] at HW
  have hzr : Fine L z.reverse := ⟨hz.1, by rw [List.length_reverse]; exact hz.2.1, fun c hc => hz.2.2 c (List.mem_reverse.1 hc)⟩
  have HH := Lib.hid (fun A c B cb W hA hB => holds_ok L A c (mrF f) B cb z.reverse W hL hA hB g hzr)
  rw [mrF_length, hn] at HH
  generalize z.reverse = R at *
  generalize R.length = k at *
  generalize fval (mrF f) R = b at *
  have HL := Lib.hid hL
  clear hL hn hM g hz hA hB hzr
  go_enter Tryd.func21, Tryd.ntmps21
  go_wp2_with fail
  refine HM.out.mono ?_
  rintro e w2 ⟨he, hb2⟩
  obtain ⟨A7, c7, rfl, _, _, hN⟩ := he.out
  have HW2 := Lib.hid (HW.out w2 hb2)
  have HB2 := Lib.hid hb2
  clear HM he hb2 HW
  go_wp2_with fail
  refine HW2.out.mono ?_
  rintro e w3 ⟨X, kx, rfl, hX, hb3⟩
  have HH2 := Lib.hid (HH.out A7 c7 X kx w3 (hN.out.on hb3) hX)
  have HB3 := Lib.hid (HB2.out.trans (hb3.mono HB2.out.size))
  clear HW2 HB2 hX hb3 hN HH
  go_wp2_with fail
  refine HH2.out.mono ?_
  rintro e w4 ⟨rfl, hb4⟩
  have HB4 := Lib.hid (HB3.out.trans (hb4.mono HB3.out.size))
  clear HH2 HB3 hb4
  go_wp2
  go_ret2
  exact ⟨rfl, HB4.out⟩
end Go.Proofs.YtciopfiddfmckaaDoor.Fm
