/- The walks of package form: chain, both, either, whole; the parser as a whole. -/
import Derived.Test.YtloihkoamccacaaGreatDoorParseL
namespace Go.Proofs.YtloihkoamccacaaGreatDoor.Fm
open Go.RowKit Go.IntWalk Go.PlainAid Go.Proofs.YtloihkoamccacaaGreatDoor.Wd Go.Proofs.YtloihkoamccacaaGreatDoor.Wo

/-- Where a parser stands, as its cell says. -/
def posOf (g : Nat) (w : World) : Nat := match w.cell? ⟨g, 1, none⟩ with
  | some (.int _ k) => k.toNat
  | _ => 0
theorem Pr.pos {w0 w : World} {g : Nat} {T : ByteArray} {L : Int} {fs : List Ent} {k : Nat} {f : List Nd} (h : Pr w0 g T L fs w k f) : posOf g w = k := by
  unfold posOf
  rw [h.cells.2.1]
  simp
theorem lasting_does {T : ByteArray} {L : Int} (hT : T.size ≤ 300) (s : List UInt8) (hS : Does 99 .sg L T s)
    (hL : ∀ s', s'.length < s.length → Does 92 .la L T s') : Does 92 .la L T s := by
  intro w0 w g fs k f x h hk hs hf hp
  cases hp with
  | laBad hp => exact lasting_bad h hk hs hf hp hS
  | la1 hp hn => exact lasting_one h hk hs hf hp hS (fun r' e => hn 85 r' e rfl) (fun r' e => hn 82 r' e rfl)
  | la2 hu hp hq =>
    have hlt := (Ps_size hp _ _ rfl)
    simp only [Szd, List.length_cons] at hlt
    rcases hu with ⟨rfl, rfl⟩ | ⟨rfl, rfl⟩
    · exact lasting_two8 hT h hk hs hf hp hS hq (hL _ (by omega))
    · exact lasting_two9 hT h hk hs hf hp hS hq (hL _ (by omega))
  | la2Bad hu hp hq =>
    have hlt := (Ps_size hp _ _ rfl)
    simp only [Szd, List.length_cons] at hlt
    rcases hu with ⟨rfl, rfl⟩ | ⟨rfl, rfl⟩
    · exact lasting_two8 hT h hk hs hf hp hS hq (hL _ (by omega))
    · exact lasting_two9 hT h hk hs hf hp hS hq (hL _ (by omega))
/-! ### chains -/
set_option maxRecDepth 100000 in
set_option maxHeartbeats 2000000 in
theorem chain_both {T : ByteArray} {L : Int} {w0 w : World} {g : Nat} {fs : List Ent} {k : Nat} {f : List Nd} {x : Option (Tree × List UInt8)} (hT : T.size ≤ 300) (h : Pr w0 g T L fs w k f) (hk : k ≤ T.size) {s : List UInt8} (hs : T.data.toList.drop k = s) (hf : f.length + s.length ≤ 600) (hp : Ps L.toNat .bo s x)
    (hA : ∀ s', s'.length ≤ s.length → Does 92 .la L T s') : Calls Tryz.prog 80 #[.pointer (some ⟨g, 0, none⟩), .int .i64 4, .func (.func 92) #[.pointer (some ⟨g, 0, none⟩)] #[]] w (Res w0 g T L fs f x) := by
  cases hp with
  | boBad hp =>
    have HX := Lib.hid (hA s (Nat.le_refl _) w0 w g fs k f _ h hk hs hf hp)
    clear h hk hs hf hp hA
    go_enter Tryz.func80, Tryz.ntmps80
    go_wp2_with fail
    refine HX.out.mono ?_
    rintro e w2 ⟨rfl, h2⟩
    exact ⟨rfl, rfl, h2⟩
  | @bo _ r t _ hp hq =>
    have HX := Lib.hid (hA s (Nat.le_refl _) w0 w g fs k f _ h hk hs hf hp)
    have hb := Ps_size hp _ _ rfl
    simp only [Szd] at hb
    have ht := t.size_pos
    have HQ := Lib.hid hq
    have HAA := Lib.hid hA
    clear h hk hs hp hA hq
    go_enter Tryz.func80, Tryz.ntmps80
    go_wp2_with fail
    refine HX.out.mono ?_
    rintro e w2 ⟨k2, hk2, hd2, rfl, h2⟩
    have HD := Lib.hid hd2
    clear HX hd2
    go_wp2
    go_loopw [7] (fun a wr => ∃ (t1 : Tree) (k1 : Nat) (r1 : List UInt8), a = .int .i64 (((flat t1 f).length - 1 : Nat) : Int) ∧ k1 ≤ T.size ∧ t1.size + r1.length ≤ s.length ∧ Hid (T.data.toList.drop k1 = r1) ∧ Hid (Pr w0 g T L fs wr k1 (flat t1 f)) ∧ Hid (Ps L.toNat (.tb t1) r1 x)) (fun _ wr => T.size - posOf g wr)
    case atStart => exact ⟨t, k2, r, rfl, hk2, hb, HD, h2, HQ⟩
    case round =>
      clear HD HQ h2 hb ht hk2
      obtain ⟨t1, k1, r1, rfl, hk1, hb1, HD, HP, HQ⟩ := hrel
      have hq := HQ.out
      clear HQ
      cases hq with
      | tbEnd hn =>
        have HS := Lib.hid (skip_no (HP.out.on (below_drewN (Below.refl _ _) 1)) hk1 38 38 rfl (drop_not (fun r' e => hn r' (HD.out.symm.trans e))))
        clear HP hn
        go_wp2_with fail
        go_region_with ((go_at_call 90; refine HS.out.mono ?_; rintro e w5 ⟨rfl, h5⟩))
        clear HS
        go_wp2
        go_ret
        exact ⟨k1, hk1, HD.out, rfl, h5⟩
      | @tbBad r2 _ hq =>
        have hg := drop_get HD.out
        have HS := Lib.hid (skip_yes (HP.out.on (below_drewN (Below.refl _ _) 1)) hT 38 38 rfl hg.1)
        have hk3 := (data_bt hg.1).2
        have HD3 := Lib.hid hg.2
        simp only [List.length_cons] at hb1
        have HL := fun W (hW : Pr w0 g T L fs W (k1 + 1) (flat t1 f)) => HAA.out r2 (by omega) w0 W g fs (k1 + 1) (flat t1 f) _ hW hk3 HD3.out (by rw [flat_length]; omega) hq
        clear HP hg HD hq
        go_wp2_with fail
        go_region_with ((go_at_call 90; refine HS.out.mono ?_; rintro e w5 ⟨rfl, h5⟩))
        clear HS
        have HX := Lib.hid (HL w5 h5.out)
        clear HL h5
        go_wp2_with fail
        refine HX.out.mono ?_
        rintro e w6 ⟨rfl, h6⟩
        exact ⟨rfl, rfl, h6⟩
      | @tbMore r2 r3 _ t2 _ hq hq2 =>
        have hg := drop_get HD.out
        have HS := Lib.hid (skip_yes (HP.out.on (below_drewN (Below.refl _ _) 1)) hT 38 38 rfl hg.1)
        have hk3 := (data_bt hg.1).2
        have HD3 := Lib.hid hg.2
        simp only [List.length_cons] at hb1
        have hb2 := Ps_size hq _ _ rfl
        simp only [Szd] at hb2
        have HL := fun W (hW : Pr w0 g T L fs W (k1 + 1) (flat t1 f)) => HAA.out r2 (by omega) w0 W g fs (k1 + 1) (flat t1 f) _ hW hk3 HD3.out (by rw [flat_length]; omega) hq
        have hpos := HP.out.pos
        have HQ2 := Lib.hid hq2
        clear HP hg HD hq hq2
        go_wp2_with fail
        go_region_with ((go_at_call 90; refine HS.out.mono ?_; rintro e w5 ⟨rfl, h5⟩))
        clear HS
        have HX := Lib.hid (HL w5 h5.out)
        clear HL h5
        go_wp2_with fail
        refine HX.out.mono ?_
        rintro e w6 ⟨k6, hk6, hd6, rfl, h6⟩
        have hlen : (flat t2 (flat t1 f)).length ≤ 1000 := by rw [flat_length, flat_length]; omega
        have HA := Lib.hid (add_any h6.out hlen (4, (((flat t1 f).length - 1 : Nat) : Int), (((flat t2 (flat t1 f)).length - 1 : Nat) : Int)))
        have HF : Hid (flat (.bin 4 t1 t2) f = flat t2 (flat t1 f) ++ [(4, (((flat t1 f).length - 1 : Nat) : Int), (((flat t2 (flat t1 f)).length - 1 : Nat) : Int))]) := rfl
        have HU : Hid (((flat (.bin 4 t1 t2) f).length - 1 : Nat) = (flat t2 (flat t1 f)).length) := by unfold Hid; simp [flat]
        have HD6 := Lib.hid hd6
        have hk6p : k1 < k6 := by
          have e1 : (T.data.toList.drop k6).length = r3.length := by rw [hd6]
          have e2 : (T.data.toList.drop (k1 + 1)).length = r2.length := by rw [HD3.out]
          have e3 := t2.size_pos
          rw [List.length_drop, data_len] at e1 e2
          omega
        clear HX h6 hlen hd6
        generalize (flat t2 (flat t1 f)).length - 1 = q2 at *
        generalize hqq : (flat t1 f).length - 1 = q at *
        clear hqq
        go_wp2_with fail
        refine HA.out.mono ?_
        rintro e w7 ⟨rfl, h7⟩
        clear HA
        have HN : Hid (Pr w0 g T L fs w7 k6 (flat (.bin 4 t1 t2) f)) := by rw [HF.out]; exact h7
        have hpos2 := HN.out.pos
        clear h7 HF
        go_wp2
        go_roundw
        case rel => exact ⟨.bin 4 t1 t2, k6, r3, by rw [HU.out], hk6, by simp only [Tree.size]; omega, HD6, HN, HQ2⟩
        case measure => rw [hpos, hpos2]; omega
set_option maxRecDepth 100000 in
set_option maxHeartbeats 2000000 in
theorem chain_either {T : ByteArray} {L : Int} {w0 w : World} {g : Nat} {fs : List Ent} {k : Nat} {f : List Nd} {x : Option (Tree × List UInt8)} (hT : T.size ≤ 300) (h : Pr w0 g T L fs w k f) (hk : k ≤ T.size) {s : List UInt8} (hs : T.data.toList.drop k = s) (hf : f.length + s.length ≤ 600) (hp : Ps L.toNat .ei s x)
    (hA : ∀ s', s'.length ≤ s.length → Does 81 .bo L T s') : Calls Tryz.prog 80 #[.pointer (some ⟨g, 0, none⟩), .int .i64 5, .func (.func 81) #[.pointer (some ⟨g, 0, none⟩)] #[]] w (Res w0 g T L fs f x) := by
  cases hp with
  | eiBad hp =>
    have HX := Lib.hid (hA s (Nat.le_refl _) w0 w g fs k f _ h hk hs hf hp)
    clear h hk hs hf hp hA
    go_enter Tryz.func80, Tryz.ntmps80
    go_wp2_with fail
    refine HX.out.mono ?_
    rintro e w2 ⟨rfl, h2⟩
    exact ⟨rfl, rfl, h2⟩
  | @ei _ r t _ hp hq =>
    have HX := Lib.hid (hA s (Nat.le_refl _) w0 w g fs k f _ h hk hs hf hp)
    have hb := Ps_size hp _ _ rfl
    simp only [Szd] at hb
    have ht := t.size_pos
    have HQ := Lib.hid hq
    have HAA := Lib.hid hA
    clear h hk hs hp hA hq
    go_enter Tryz.func80, Tryz.ntmps80
    go_wp2_with fail
    refine HX.out.mono ?_
    rintro e w2 ⟨k2, hk2, hd2, rfl, h2⟩
    have HD := Lib.hid hd2
    clear HX hd2
    go_wp2
    go_loopw [7] (fun a wr => ∃ (t1 : Tree) (k1 : Nat) (r1 : List UInt8), a = .int .i64 (((flat t1 f).length - 1 : Nat) : Int) ∧ k1 ≤ T.size ∧ t1.size + r1.length ≤ s.length ∧ Hid (T.data.toList.drop k1 = r1) ∧ Hid (Pr w0 g T L fs wr k1 (flat t1 f)) ∧ Hid (Ps L.toNat (.te t1) r1 x)) (fun _ wr => T.size - posOf g wr)
    case atStart => exact ⟨t, k2, r, rfl, hk2, hb, HD, h2, HQ⟩
    case round =>
      clear HD HQ h2 hb ht hk2
      obtain ⟨t1, k1, r1, rfl, hk1, hb1, HD, HP, HQ⟩ := hrel
      have hq := HQ.out
      clear HQ
      cases hq with
      | teEnd hn =>
        have HS := Lib.hid (skip_no (HP.out.on (below_drewN (Below.refl _ _) 1)) hk1 124 124 rfl (drop_not (fun r' e => hn r' (HD.out.symm.trans e))))
        clear HP hn
        go_wp2_with fail
        go_region_with ((go_at_call 90; refine HS.out.mono ?_; rintro e w5 ⟨rfl, h5⟩))
        clear HS
        go_wp2
        go_ret
        exact ⟨k1, hk1, HD.out, rfl, h5⟩
      | @teBad r2 _ hq =>
        have hg := drop_get HD.out
        have HS := Lib.hid (skip_yes (HP.out.on (below_drewN (Below.refl _ _) 1)) hT 124 124 rfl hg.1)
        have hk3 := (data_bt hg.1).2
        have HD3 := Lib.hid hg.2
        simp only [List.length_cons] at hb1
        have HL := fun W (hW : Pr w0 g T L fs W (k1 + 1) (flat t1 f)) => HAA.out r2 (by omega) w0 W g fs (k1 + 1) (flat t1 f) _ hW hk3 HD3.out (by rw [flat_length]; omega) hq
        clear HP hg HD hq
        go_wp2_with fail
        go_region_with ((go_at_call 90; refine HS.out.mono ?_; rintro e w5 ⟨rfl, h5⟩))
        clear HS
        have HX := Lib.hid (HL w5 h5.out)
        clear HL h5
        go_wp2_with fail
        refine HX.out.mono ?_
        rintro e w6 ⟨rfl, h6⟩
        exact ⟨rfl, rfl, h6⟩
      | @teMore r2 r3 _ t2 _ hq hq2 =>
        have hg := drop_get HD.out
        have HS := Lib.hid (skip_yes (HP.out.on (below_drewN (Below.refl _ _) 1)) hT 124 124 rfl hg.1)
        have hk3 := (data_bt hg.1).2
        have HD3 := Lib.hid hg.2
        simp only [List.length_cons] at hb1
        have hb2 := Ps_size hq _ _ rfl
        simp only [Szd] at hb2
        have HL := fun W (hW : Pr w0 g T L fs W (k1 + 1) (flat t1 f)) => HAA.out r2 (by omega) w0 W g fs (k1 + 1) (flat t1 f) _ hW hk3 HD3.out (by rw [flat_length]; omega) hq
        have hpos := HP.out.pos
        have HQ2 := Lib.hid hq2
        clear HP hg HD hq hq2
        go_wp2_with fail
        go_region_with ((go_at_call 90; refine HS.out.mono ?_; rintro e w5 ⟨rfl, h5⟩))
        clear HS
        have HX := Lib.hid (HL w5 h5.out)
        clear HL h5
        go_wp2_with fail
        refine HX.out.mono ?_
        rintro e w6 ⟨k6, hk6, hd6, rfl, h6⟩
        have hlen : (flat t2 (flat t1 f)).length ≤ 1000 := by rw [flat_length, flat_length]; omega
        have HA := Lib.hid (add_any h6.out hlen (5, (((flat t1 f).length - 1 : Nat) : Int), (((flat t2 (flat t1 f)).length - 1 : Nat) : Int)))
        have HF : Hid (flat (.bin 5 t1 t2) f = flat t2 (flat t1 f) ++ [(5, (((flat t1 f).length - 1 : Nat) : Int), (((flat t2 (flat t1 f)).length - 1 : Nat) : Int))]) := rfl
        have HU : Hid (((flat (.bin 5 t1 t2) f).length - 1 : Nat) = (flat t2 (flat t1 f)).length) := by unfold Hid; simp [flat]
        have HD6 := Lib.hid hd6
        have hk6p : k1 < k6 := by
          have e1 : (T.data.toList.drop k6).length = r3.length := by rw [hd6]
          have e2 : (T.data.toList.drop (k1 + 1)).length = r2.length := by rw [HD3.out]
          have e3 := t2.size_pos
          rw [List.length_drop, data_len] at e1 e2
          omega
        clear HX h6 hlen hd6
        generalize (flat t2 (flat t1 f)).length - 1 = q2 at *
        generalize hqq : (flat t1 f).length - 1 = q at *
        clear hqq
        go_wp2_with fail
        refine HA.out.mono ?_
        rintro e w7 ⟨rfl, h7⟩
        clear HA
        have HN : Hid (Pr w0 g T L fs w7 k6 (flat (.bin 5 t1 t2) f)) := by rw [HF.out]; exact h7
        have hpos2 := HN.out.pos
        clear h7 HF
        go_wp2
        go_roundw
        case rel => exact ⟨.bin 5 t1 t2, k6, r3, by rw [HU.out], hk6, by simp only [Tree.size]; omega, HD6, HN, HQ2⟩
        case measure => rw [hpos, hpos2]; omega
set_option maxRecDepth 100000 in
theorem both_does {T : ByteArray} {L : Int} (hT : T.size ≤ 300) (s : List UInt8) (hA : ∀ s', s'.length ≤ s.length → Does 92 .la L T s') : Does 81 .bo L T s := by
  intro w0 w g fs k f x h hk hs hf hp
  have HC := Lib.hid (chain_both hT h hk hs hf hp hA)
  have hmf : ∀ (fn : Fn) (first cap : Array Value) (w : World), (Instr.makeFunc fn first cap).run Tryz.prog w = .ok (.func fn first cap) w := fun _ _ _ _ => rfl
  clear h hk hs hf hp hA
  go_enter Tryz.func81, Tryz.ntmps81
  go_wp2_with fail
  refine HC.out.mono ?_
  clear HC
  rcases x with _ | ⟨t, r⟩
  · rintro e w2 ⟨rfl, h2⟩
    exact ⟨rfl, rfl, h2⟩
  · rintro e w2 ⟨k2, hk2, hd2, rfl, h2⟩
    have HD := Lib.hid hd2
    clear hd2
    go_wp2
    go_ret
    exact ⟨k2, hk2, HD.out, rfl, h2⟩
set_option maxRecDepth 100000 in
theorem either_does {T : ByteArray} {L : Int} (hT : T.size ≤ 300) (s : List UInt8) (hA : ∀ s', s'.length ≤ s.length → Does 81 .bo L T s') : Does 59 .ei L T s := by
  intro w0 w g fs k f x h hk hs hf hp
  have HC := Lib.hid (chain_either hT h hk hs hf hp hA)
  have hmf : ∀ (fn : Fn) (first cap : Array Value) (w : World), (Instr.makeFunc fn first cap).run Tryz.prog w = .ok (.func fn first cap) w := fun _ _ _ _ => rfl
  clear h hk hs hf hp hA
  go_enter Tryz.func59, Tryz.ntmps59
  go_wp2_with fail
  refine HC.out.mono ?_
  clear HC
  rcases x with _ | ⟨t, r⟩
  · rintro e w2 ⟨rfl, h2⟩
    exact ⟨rfl, rfl, h2⟩
  · rintro e w2 ⟨k2, hk2, hd2, rfl, h2⟩
    have HD := Lib.hid hd2
    clear hd2
    go_wp2
    go_ret
    exact ⟨k2, hk2, HD.out, rfl, h2⟩
/-- All of the parser's readings. -/
theorem all_do {T : ByteArray} {L : Int} (hT : T.size ≤ 300) (h1 : 1 ≤ L) (h6 : L ≤ 6) : ∀ (n : Nat) (s : List UInt8), s.length ≤ n →
    Does 99 .sg L T s ∧ Does 92 .la L T s ∧ Does 81 .bo L T s ∧ Does 59 .ei L T s := by
  have step : ∀ (s : List UInt8), (∀ s', s'.length < s.length → Does 99 .sg L T s' ∧ Does 92 .la L T s' ∧ Does 81 .bo L T s' ∧ Does 59 .ei L T s') →
      Does 99 .sg L T s ∧ Does 92 .la L T s := fun s ih => by
    have hs := single_does hT h1 h6 s (fun s' h => (ih s' h).2.2.2) (fun s' h => (ih s' h).1)
    exact ⟨hs, lasting_does hT s hs (fun s' h => (ih s' h).2.1)⟩
  intro n
  induction n with
  | zero =>
    intro s hs
    have ih : ∀ s' : List UInt8, s'.length < s.length → Does 99 .sg L T s' ∧ Does 92 .la L T s' ∧ Does 81 .bo L T s' ∧ Does 59 .ei L T s' := fun s' h => by omega
    obtain ⟨a1, a2⟩ := step s ih
    have hla : ∀ s' : List UInt8, s'.length ≤ s.length → Does 92 .la L T s' := fun s' h => by
      obtain rfl : s' = s := by rw [List.eq_nil_of_length_eq_zero (show s.length = 0 by omega), List.eq_nil_of_length_eq_zero (show s'.length = 0 by omega)]
      exact a2
    have hbo : ∀ s' : List UInt8, s'.length ≤ s.length → Does 81 .bo L T s' := fun s' h => both_does hT s' fun s'' h2 => hla s'' (by omega)
    exact ⟨a1, a2, hbo s (Nat.le_refl _), either_does hT s hbo⟩
  | succ n ih =>
    have hsg : ∀ s : List UInt8, s.length ≤ n + 1 → Does 99 .sg L T s ∧ Does 92 .la L T s := fun s hs => step s fun s' h => ih s' (by omega)
    have hbo : ∀ s : List UInt8, s.length ≤ n + 1 → Does 81 .bo L T s := fun s hs => both_does hT s fun s' h => (hsg s' (by omega)).2
    intro s hs
    exact ⟨(hsg s hs).1, (hsg s hs).2, hbo s hs, either_does hT s fun s' h => hbo s' (by omega)⟩
end Go.Proofs.YtloihkoamccacaaGreatDoor.Fm
