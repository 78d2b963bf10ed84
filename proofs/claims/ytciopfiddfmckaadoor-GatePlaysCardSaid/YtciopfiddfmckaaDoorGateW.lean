/- The walks of package gate. -/
import Derived.Test.YtciopfiddfmckaaDoorGateA
import Derived.Test.YtciopfiddfmckaaDoorFound
namespace Go.Proofs.YtciopfiddfmckaaDoor.Ga
open Go.RowKit Go.IntWalk Go.Proofs.YtciopfiddfmckaaDoor.Wd Go.Proofs.YtciopfiddfmckaaDoor.Wo Go.Proofs.YtciopfiddfmckaaDoor.Df Go.Proofs.YtciopfiddfmckaaDoor.Rc Go.Proofs.YtciopfiddfmckaaDoor.Sm Go.Proofs.YtciopfiddfmckaaDoor.Sa

theorem one_at (w : World) (z : Int) (hs : Small z) : IntsAt (w.alloc (.cells #[.int .i64 z] 3)) (w.alloc (.cells #[.int .i64 z] 3)).heap.size (some ⟨w.heap.size, 0, none⟩) [z] := by
  have h := (own_start w).lit 3 1 1 #[.int .i64 z] rfl (by simp [maxLen])
  exact ⟨h.cells (t := 3) (sz := 1) (n := 1) (cap := 1) (A := some ⟨w.heap.size, 0, none⟩) (xs := [i64 z]) (by simp [i64]), fun x hx => by simp at hx; subst hx; exact hs⟩
theorem chk_letter {d : Aut} (hd : Df.Good d) (a : Int) : chk d.L [a] = if isL d a = true then 0 else 1 := by
  have h1 := hd.l1
  have h2 := hd.l6
  unfold chk isL
  rw [if_neg (by omega), if_neg (by simp)]
  simp
theorem letter_small {d : Aut} (hd : Df.Good d) {l : List Int} (hw : Word d.L l) : ∀ x ∈ l, Small x := fun x hx => by
  have := hw x hx
  have := hd.l6
  exact ⟨by omega, by omega⟩
/-- What is told of one letter more. -/
theorem acc_more {d : Aut} (hd : Df.Good d) {G : Gt} (hk : Gok d G) {a : Int} (ha : isL d a = true) : accErr d (G.out ++ [a]) = (if 80 ≤ G.out.length then 4 else 0) ∧ (G.out.length < 80 → accOut d (G.out ++ [a]) = finA d (Df.step d G.s a.toNat)) := by
  obtain ⟨h0, h1⟩ := isL_iff.1 ha
  have hz : dchk d = 0 := dchk_iff.2 hd
  have hL1 := hd.l1
  have hL6 := hd.l6
  have hw := word_one hk.word h0 h1
  by_cases h : 80 ≤ G.out.length
  · rw [if_pos h]
    refine ⟨?_, fun h2 => by omega⟩
    unfold accErr
    rw [if_neg (by omega), chk_four (by omega) (by rw [List.length_append]; simp; omega)]
  · rw [if_neg h]
    have he : accErr d (G.out ++ [a]) = 0 := by
      unfold accErr
      rw [if_neg (by omega)]
      exact chk_iff.2 ⟨by omega, by rw [List.length_append]; simp; omega, hw⟩
    refine ⟨he, fun _ => ?_⟩
    unfold accOut
    rw [if_pos he]
    unfold accA
    rw [step_last, ← hk.st]
set_option maxRecDepth 100000 in
set_option maxHeartbeats 2000000 in
theorem offer_any (w0 w : World) (g : Nat) (d : Aut) (G : Gt) (es fs : List Ent) (a : Int) (hG : GateW w0 w g d G es fs) (hd : Df.Good d) (hk : Gok d G) (ha : Small a) :
    Calls Tryd.prog 17 #[.pointer (some ⟨g, 0, none⟩), .int .i64 a] w fun e w' => Hid (e = .returned (.tuple #[.bool (offer d G a).2.1, errV (offer d G a).1])) ∧ Hid (GateW w0 w' g d (offer d G a).2.2 es fs) := by
  obtain ⟨nv, fv, pv, rs, hV⟩ := hG
  obtain ⟨A, c, F, cf, P, cp, rfl, rfl, rfl⟩ := hV.forms
  obtain ⟨c0, _⟩ := hV.cell (j := 0) rfl
  obtain ⟨c5, f5⟩ := hV.cell (j := 5) rfl
  have HC := Lib.hid (check_any d.L (some ⟨w.heap.size, 0, none⟩) 1 [a] (w.alloc (.cells #[.int .i64 a] 3)) hV.sL (one_at w a ha) (by simp))
  rw [chk_letter hd] at HC
  rcases hl : isL d a with _ | _
  · have HO : Hid (offer d G a = (1, false, G)) := offer_bad hl
    rw [hl] at HC
    have HW : Hid (GateW w0 (w.alloc (.cells #[.int .i64 a] 3)) g d G es fs) := ⟨_, _, _, rs, hV.on (below_alloc _ _)⟩
    clear hl hV
    generalize d.L = L at *
    generalize G.shut = sh at *
    go_enter Tryd.func17, Tryd.ntmps17
    go_wp2_with fail
    refine HC.out.mono ?_
    rintro e w2 ⟨he, rfl⟩
    obtain rfl : e = .returned (errI 1) := he.out
    go_wp2
    go_ret2
    exact ⟨by rw [HO.out]; rfl, by rw [HO.out]; exact HW.out⟩
  · rw [hl] at HC
    rcases hsh : G.shut with _ | _
    · obtain ⟨c4, f4⟩ := hV.cell (j := 4) rfl
      obtain ⟨_, hcp, _⟩ := hV.out (letter_small hd hk.word)
      obtain ⟨hae, hao⟩ := acc_more hd hk hl
      have hn80 : G.out.length ≤ 80 := hk.len
      have hN : (G.out ++ [a]).length = G.out.length + 1 := by simp
      have hw2 := word_one hk.word (isL_iff.1 hl).1 (isL_iff.1 hl).2
      have hsm := letter_small hd hw2
      have HACC : Hid (∀ (v : Value) (Z : Option Addr) (cz : Nat) (W : World), DfaAt W W.heap.size v d → IntsAt W W.heap.size Z (G.out ++ [a]) → Calls Tryd.prog 39 #[v, .slice Z (G.out.length + 1) cz] W fun e w' => Hid (e = .returned (.tuple #[.bool (accOut d (G.out ++ [a])), errV (accErr d (G.out ++ [a]))])) ∧ Below W.heap.size W w') := fun v Z cz W h1 h2 => by
        have := acc_any v d Z cz (G.out ++ [a]) W h1 h2 (by rw [hN]; omega)
        rwa [hN] at this
      have HV := Lib.hid (hV.on (below_alloc w (.cells #[.int .i64 a] 3)))
      have HOwn := Lib.hid HV.out.own.two
      have HSM := Lib.hid hsm
      obtain ⟨sh, hsh2⟩ : ∃ sh, G.shut = sh := ⟨_, rfl⟩
      have HS : Hid (G.shut = false) := hsh
      rw [hsh] at c5
      have HP : Hid (∀ cap w2 w3, Own w0 w2 (eInts (.slice (some ⟨cap, 0, none⟩) (G.out.length + 1) w3) (G.out ++ [a]) :: eGate g [.int .i64 d.L, .int .i64 d.s, .slice A d.next.length c, .slice F d.fin.length cf, .slice P G.out.length cp, .bool G.shut] :: es) (eRows (.slice A d.next.length c) (rs.map (·.1)) :: eBools (.slice F d.fin.length cf) d.fin :: (eEach rs ++ fs)) → IntsAt w2 w2.heap.size (some ⟨cap, 0, none⟩) (G.out ++ [a])) := fun cap w2 w3 ho => by
        obtain ⟨A', c', e, _, _, h⟩ := own_ints_at ho List.mem_cons_self hsm
        obtain ⟨rfl, _⟩ : some ⟨cap, 0, none⟩ = A' ∧ w3 = c' := by simpa using e
        exact h
      have HOff : Hid (if 80 ≤ G.out.length then offer d G a = (4, false, G) else if finA d (Df.step d G.s a.toNat) = true then offer d G a = (0, true, ⟨Df.step d G.s a.toNat, G.out ++ [a], false⟩) else offer d G a = (0, false, ⟨G.s, G.out, true⟩)) := by
        unfold Hid
        split
        · exact offer_full hl hsh (by assumption)
        · split
          · exact offer_pass hl hsh (by omega) (by assumption)
          · exact offer_stop hl hsh (by omega) (by simpa using (by assumption : ¬ finA d (Df.step d G.s a.toNat) = true))
      have HAE := Lib.hid (And.intro hae hao)
      clear hl hV hsm hw2 hN hsh hsh2 hae hao hk
      obtain ⟨n, hn⟩ : ∃ n, G.out.length = n := ⟨_, rfl⟩
      obtain ⟨N, hNn⟩ : ∃ N, d.next.length = N := ⟨_, rfl⟩
      obtain ⟨M, hM⟩ : ∃ M, d.fin.length = M := ⟨_, rfl⟩
      have HLn := Lib.hid (And.intro hn (And.intro hNn hM))
      rw [hn] at c4 hn80 hcp HACC HP HOff HAE HOwn HV
      rw [hNn, hM] at HP HOwn HV
      clear hn hNn hM
      obtain ⟨e5, _⟩ := HV.out.cell (j := 5) rfl
      rw [HS.out] at e5
      clear c5 f5 f4 c4
      obtain ⟨e4, _⟩ := HV.out.cell (j := 4) rfl
      go_enter Tryd.func17, Tryd.ntmps17
      go_wp2_with fail
      refine HC.out.mono ?_
      rintro e w2 ⟨he, rfl⟩
      obtain rfl : e = .returned .nilIface := he.out
      clear HC he
      generalize hw1 : w.alloc (.cells #[.int .i64 a] 3) = w1 at *
      go_wp2_with (at_builtin; refine own_int_both rfl _ _ rfl rfl HOwn.out rfl (by rw [HLn.out.1]; omega) ?_)
      intro g2 cap w3 hA hB
      have HV3 := Lib.hid (HV.out.back hB)
      rw [HLn.out.1] at hA ⊢
      have HZ := Lib.hid (HP.out _ _ _ hA)
      have HD := Lib.hid HV3.out.dfa
      obtain ⟨k0, _⟩ := HV3.out.cell (j := 0) rfl
      obtain ⟨k1, _⟩ := HV3.out.cell (j := 1) rfl
      obtain ⟨k2, _⟩ := HV3.out.cell (j := 2) rfl
      obtain ⟨k3, _⟩ := HV3.out.cell (j := 3) rfl
      have HA := Lib.hid hA
      clear hA hB e4 e5 HP hw1 hn80 hcp HOwn HV
      go_wp2_with fail
      refine (HACC.out _ _ _ _ HD.out HZ.out).mono ?_
      rintro e w4 ⟨he, hb⟩
      rw [HAE.out.1] at he
      have HV4 := Lib.hid (HV3.out.on hb)
      have HA4 := Lib.hid (HA.out.on hb)
      clear k0 k1 k2 k3 HZ HD HACC HA HV3 hb
      obtain ⟨k4, f4⟩ := HV4.out.cell (j := 4) rfl
      obtain ⟨k5, f5⟩ := HV4.out.cell (j := 5) rfl
      by_cases h80 : 80 ≤ n
      · have HO : Hid (offer d G a = (4, false, G)) := by have := HOff.out; rwa [if_pos h80] at this
        rw [if_pos h80] at he
        have HE : Hid (GateW w0 w4 g d G es fs) := ⟨_, _, _, rs, HV4.out⟩
        obtain ⟨b, hb⟩ : ∃ b, accOut d (G.out ++ [a]) = b := ⟨_, rfl⟩
        rw [hb] at he
        obtain rfl : e = .returned (.tuple #[.bool b, errI 4]) := he.out
        clear he hb HOff HAE k4 k5 f4 f5
        go_wp2
        go_ret2
        exact ⟨by rw [HO.out]; rfl, by rw [HO.out]; exact HE.out⟩
      · rw [if_neg h80, HAE.out.2 (by omega)] at he
        rcases hf : finA d (Df.step d G.s a.toNat) with _ | _
        · have HO : Hid (offer d G a = (0, false, ⟨G.s, G.out, true⟩)) := by have := HOff.out; rwa [if_neg h80, if_neg (by rw [hf]; decide)] at this
          rw [hf] at he
          obtain rfl : e = .returned (.tuple #[.bool false, .nilIface]) := he.out
          have HE : Hid (GateW w0 (w4.setCell ⟨g, 5, none⟩ (.bool true)) g d ⟨G.s, G.out, true⟩ es fs) := ⟨_, _, _, rs, HV4.out.close⟩
          clear he hf HOff HAE k4 f4
          go_wp2
          go_ret2
          exact ⟨by rw [HO.out]; rfl, by rw [HO.out]; exact HE.out⟩
        · have HO : Hid (offer d G a = (0, true, ⟨Df.step d G.s a.toNat, G.out ++ [a], false⟩)) := by have := HOff.out; rwa [if_neg h80, if_pos hf] at this
          rw [hf] at he
          obtain rfl : e = .returned (.tuple #[.bool true, .nilIface]) := he.out
          have HE : Hid (GateW w0 (w4.setCell ⟨g, 4, none⟩ (.slice (some ⟨g2, 0, none⟩) (n + 1) cap)) g d ⟨Df.step d G.s a.toNat, G.out ++ [a], false⟩ es fs) := ⟨_, _, _, rs, HV4.out.more (G2 := ⟨Df.step d G.s a.toNat, G.out ++ [a], false⟩) HS.out.symm (by simp) HA4.out⟩
          clear he hf HOff HAE k5 f5
          go_wp2
          go_ret2
          exact ⟨by rw [HO.out]; rfl, by rw [HO.out]; exact HE.out⟩
    · have HO : Hid (offer d G a = (0, false, G)) := offer_shut hl hsh
      have HW : Hid (GateW w0 (w.alloc (.cells #[.int .i64 a] 3)) g d G es fs) := ⟨_, _, _, rs, hV.on (below_alloc _ _)⟩
      obtain ⟨e5, _⟩ := (hV.on (below_alloc w (.cells #[.int .i64 a] 3))).cell (j := 5) rfl
      clear hl hV
      rw [hsh] at e5
      clear hsh c5 f5
      generalize d.L = L at *
      go_enter Tryd.func17, Tryd.ntmps17
      go_wp2_with fail
      refine HC.out.mono ?_
      rintro e w2 ⟨he, rfl⟩
      obtain rfl : e = .returned .nilIface := he.out
      go_wp2
      go_ret2
      exact ⟨by rw [HO.out]; rfl, by rw [HO.out]; exact HW.out⟩
/-- A gate that is shut: nothing is changed. -/
theorem offer_still (w0 w : World) (g : Nat) (d : Aut) (G : Gt) (es fs : List Ent) (a : Int) (hG : GateW w0 w g d G es fs) (hd : Df.Good d) (hs : G.shut = true) (ha : Small a) :
    Calls Tryd.prog 17 #[.pointer (some ⟨g, 0, none⟩), .int .i64 a] w fun e w' => Hid (e = .returned (.tuple #[.bool false, errV (if isL d a = true then 0 else 1)])) ∧ Below w.heap.size w w' := by
  obtain ⟨nv, fv, pv, rs, hV⟩ := hG
  obtain ⟨A, c, F, cf, P, cp, rfl, rfl, rfl⟩ := hV.forms
  obtain ⟨c0, _⟩ := hV.cell (j := 0) rfl
  obtain ⟨e5, _⟩ := (hV.on (below_alloc w (.cells #[.int .i64 a] 3))).cell (j := 5) rfl
  have HC := Lib.hid (check_any d.L (some ⟨w.heap.size, 0, none⟩) 1 [a] (w.alloc (.cells #[.int .i64 a] 3)) hV.sL (one_at w a ha) (by simp))
  rw [chk_letter hd] at HC
  rw [hs] at e5
  have HB := Lib.hid (below_alloc w (.cells #[.int .i64 a] 3))
  clear hV hs
  generalize d.L = L at *
  rcases hl : isL d a with _ | _
  · rw [hl] at HC
    clear hl
    go_enter Tryd.func17, Tryd.ntmps17
    go_wp2_with fail
    refine HC.out.mono ?_
    rintro e w2 ⟨he, rfl⟩
    obtain rfl : e = .returned (errI 1) := he.out
    go_wp2
    go_ret2
    exact ⟨rfl, HB.out⟩
  · rw [hl] at HC
    clear hl
    go_enter Tryd.func17, Tryd.ntmps17
    go_wp2_with fail
    refine HC.out.mono ?_
    rintro e w2 ⟨he, rfl⟩
    obtain rfl : e = .returned (.nilIface) := he.out
    go_wp2
    go_ret2
    exact ⟨rfl, HB.out⟩
/-! ### Out, Shut -/
set_option maxRecDepth 100000 in
theorem out_any (w0 w : World) (g : Nat) (d : Aut) (G : Gt) (es fs : List Ent) (hG : GateW w0 w g d G es fs) (hd : Df.Good d) (hk : Gok d G) :
    Calls Tryd.prog 20 #[.pointer (some ⟨g, 0, none⟩)] w fun e w' => Hid (∃ v', e = .returned v' ∧ Own w w' [eInts v' G.out] []) := by
  obtain ⟨nv, fv, pv, rs, hV⟩ := hG
  obtain ⟨c4, _⟩ := hV.cell (j := 4) rfl
  obtain ⟨A, c, F, cf, P, cp, rfl, rfl, rfl⟩ := hV.forms
  have HC := Lib.hid (clone_word (.slice P G.out.length cp) G.out w hV.own (by simp) (letter_small hd hk.word) hV.nil0 (by have := hk.len; omega))
  clear hV hk
  obtain ⟨n, hn⟩ : ∃ n, G.out.length = n := ⟨_, rfl⟩
  rw [hn] at HC c4
  clear hn
  go_enter Tryd.func20, Tryd.ntmps20
  go_wp2_with fail
  refine HC.out.mono ?_
  rintro e w2 he
  obtain ⟨v', rfl, ho⟩ := he.out
  have HO := Lib.hid ho
  clear he ho HC
  go_wp2
  go_ret
  exact ⟨_, rfl, HO.out⟩
set_option maxRecDepth 100000 in
theorem shut_any (w0 w : World) (g : Nat) (d : Aut) (G : Gt) (es fs : List Ent) (hG : GateW w0 w g d G es fs) :
    Calls Tryd.prog 18 #[.pointer (some ⟨g, 0, none⟩)] w fun e w' => e = .returned (.bool G.shut) ∧ w' = w := by
  obtain ⟨nv, fv, pv, rs, hV⟩ := hG
  obtain ⟨c5, _⟩ := hV.cell (j := 5) rfl
  clear hV
  generalize G.shut = sh at *
  go_enter Tryd.func18, Tryd.ntmps18
  go_wp2
  go_ret
  exact ⟨rfl, rfl⟩
end Go.Proofs.YtciopfiddfmckaaDoor.Ga
