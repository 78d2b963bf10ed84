/- The walks of package form: add, set. -/
import Derived.Test.YtaelgnmklepebaaDoorParser
namespace Go.Proofs.YtaelgnmklepebaaDoor.Fm
open Go.RowKit Go.IntWalk Go.PlainAid Go.Proofs.YtaelgnmklepebaaDoor.Wd Go.Proofs.YtaelgnmklepebaaDoor.Wo

set_option maxRecDepth 100000 in
theorem add_any {w0 w : World} {g : Nat} {T : ByteArray} {L : Int} {fs : List Ent} {k : Nat} {f : List Nd} (h : Pr w0 g T L fs w k f) (hf : f.length ≤ 1000) (n : Nd) :
    Calls Tryd.prog 76 #[.pointer (some ⟨g, 2, none⟩), .int .i64 n.1, .int .i64 n.2.1, .int .i64 n.2.2] w fun e w' => e = .returned (.int .i64 f.length) ∧ Hid (Pr w0 g T L fs w' k (f ++ [n])) := by
  obtain ⟨v, h⟩ := h
  obtain ⟨x, a, b⟩ := n
  have HO := Lib.hid h
  have c2 := (par_cell (j := 2) h rfl).1
  clear h
  show Calls _ _ #[_, .int .i64 x, .int .i64 a, .int .i64 b] _ _
  go_enter Tryd.func76, Tryd.ntmps76
  go_wp2_with (at_builtin; refine own_node (m := (x, a, b)) rfl _ _ rfl rfl HO.out.two rfl (by omega) ?_)
  intro g2 cap2 w3 ho
  have H3 := Lib.hid ho.two
  have hz := (par_cell (j := 2) H3.out rfl).2
  have h31 := (par_cell (j := 2) H3.out rfl).1
  have H4 := Lib.hid (par_set H3.out 2 (.slice (some ⟨g2, 0, none⟩) (f.length + 1) cap2))
  clear ho HO
  go_wp2
  go_ret
  exact ⟨by show Ending.returned (Value.int IntKind.i64 _) = _; congr 2, _, H4.out⟩
theorem drop_yes {l : List UInt8} {k : Nat} {c : UInt8} (h : l[k]? = some c) : l.drop k = c :: l.drop (k + 1) := by
  obtain ⟨h1, h2⟩ := List.getElem?_eq_some_iff.1 h
  rw [List.drop_eq_getElem_cons h1, h2]
theorem drop_get {l : List UInt8} {k : Nat} {c : UInt8} {s : List UInt8} (h : l.drop k = c :: s) : l[k]? = some c ∧ l.drop (k + 1) = s := by
  have h1 : (l.drop k)[0]? = some c := by rw [h]; rfl
  rw [List.getElem?_drop, Nat.add_zero] at h1
  have h2 := drop_yes h1
  rw [h] at h2
  simp at h2
  exact ⟨h1, h2.symm⟩
theorem drop_not {l : List UInt8} {k : Nat} {c : UInt8} (h : ∀ s, l.drop k ≠ c :: s) : l[k]? ≠ some c := fun e => h _ (drop_yes e)
theorem digs_yes {l : List UInt8} {k a m : Nat} {al : List Nat} (h : l[k]? = some (dg a)) : digs (a :: al) (l.drop k) m = digs al (l.drop (k + 1)) (m + 2 ^ a) := by
  rw [drop_yes h]; simp [digs]
theorem digs_no {l : List UInt8} {k a m : Nat} {al : List Nat} (h : l[k]? ≠ some (dg a)) : digs (a :: al) (l.drop k) m = digs al (l.drop k) m := by
  rcases hd : l.drop k with _ | ⟨c, s⟩
  · rfl
  · have h1 := (drop_get hd).1
    have hne : c ≠ dg a := fun e => h (by rw [h1, e])
    simp [digs, hne]
theorem range_drop {L a : Nat} (h : a < L) : (List.range L).drop a = a :: (List.range L).drop (a + 1) := by
  rw [List.drop_eq_getElem_cons (by simpa using h)]
  simp
theorem or_low : ∀ a : Nat, a < 6 → ∀ m : Nat, m < 64 → m < 2 ^ a → bits .or .i64 (m : Int) ((2 ^ a : Nat) : Int) = ((m + 2 ^ a : Nat) : Int) := by decide +kernel
theorem shl_low : ∀ a : Nat, a < 6 → wrap64 ((2 : Int) ^ a) = ((2 ^ a : Nat) : Int) := by decide +kernel
set_option maxRecDepth 100000 in
set_option maxHeartbeats 1000000 in
theorem set_any {w0 w : World} {g : Nat} {T : ByteArray} {L : Int} {fs : List Ent} {k : Nat} {f : List Nd} (h : Pr w0 g T L fs w k f) (hT : T.size ≤ 300) (hk : k ≤ T.size) (h1 : 1 ≤ L) (h6 : L ≤ 6) {n : Nat} {r : List UInt8} (hd : digs (List.range L.toNat) (T.data.toList.drop k) 0 = (n, r)) :
    Calls Tryd.prog 93 #[.pointer (some ⟨g, 0, none⟩)] w fun e w' =>
      (∃ k', k' ≤ T.size ∧ r = 93 :: T.data.toList.drop k' ∧ e = .returned (.int .i64 (n : Int)) ∧ Hid (Pr w0 g T L fs w' k' f)) ∨ ((∀ r', r ≠ 93 :: r') ∧ Gave w0 fs 2 e w') := by
  have HP := Lib.hid h
  have HD : Hid (digs ((List.range L.toNat).drop 0) (T.data.toList.drop k) 0 = (n, r)) := hd
  obtain ⟨_, _, c3, _⟩ := h.cells
  clear h hd
  go_enter Tryd.func93, Tryd.ntmps93
  go_wp2
  go_loopw [3, 9] (fun s i wr => ∃ (m a k' : Nat), a ≤ L.toNat ∧ k' ≤ T.size ∧ m < 2 ^ a ∧ s = .int .i64 (m : Int) ∧ i = .int .i64 (a : Int) ∧ Hid (Pr w0 g T L fs wr k' f) ∧ Hid (digs ((List.range L.toNat).drop a) (T.data.toList.drop k') m = (n, r))) (fun _ i _ => 6 - (intOf i).toNat)
  case atStart => exact ⟨0, 0, k, by omega, hk, by simp, rfl, rfl, HP, HD⟩
  case round =>
    clear HP HD c3
    obtain ⟨m, a, k', ha, hk', hm, rfl, rfl, HP, HD⟩ := hrel
    by_cases hlt : (a : Int) < L
    · have ha6 : a < 6 := by omega
      have hm64 : m < 64 := Nat.lt_of_lt_of_le hm (by have := Nat.pow_le_pow_right (n := 2) (by decide) (show a ≤ 6 by omega); simpa using this)
      have hor := or_low a ha6 m hm64 hm
      have hsh := shl_low a ha6
      have hu1 := (u8_low ha6).1
      have hu2 := (u8_low ha6).2
      have hpw : m + 2 ^ a < 2 ^ (a + 1) := by rw [Nat.pow_succ]; omega
      have hpw2 : m < 2 ^ (a + 1) := by rw [Nat.pow_succ]; omega
      have hrd := range_drop (show a < L.toNat by omega)
      by_cases hc : T.data.toList[k']? = some (dg a)
      · have HS := Lib.hid (skip_yes HP.out hT (dg a) (48 + (a : Int)) (dg_num ha6) hc)
        have HD2 : Hid (digs ((List.range L.toNat).drop (a + 1)) (T.data.toList.drop (k' + 1)) (m + 2 ^ a) = (n, r)) := by
          have := HD.out
          rwa [hrd, digs_yes hc] at this
        have hk2 : k' + 1 ≤ T.size := (data_bt hc).2
        obtain ⟨P, hP⟩ : ∃ P : Nat, P = 2 ^ a := ⟨_, rfl⟩
        rw [← hP] at hor hsh hpw HD2
        clear hc hrd HD HP hP hm hpw2 hm64
        go_wp2_with fail
        refine HS.out.mono ?_
        rintro e w2 ⟨rfl, h2⟩
        clear HS
        go_wp2
        go_roundw
        case rel => exact ⟨m + P, a + 1, k' + 1, by omega, hk2, hpw, by go_num, by go_num, h2, HD2⟩
        case measure => simp [intOf]; omega
      · have HS := Lib.hid (skip_no HP.out hk' (dg a) (48 + (a : Int)) (dg_num ha6) hc)
        have HD2 : Hid (digs ((List.range L.toNat).drop (a + 1)) (T.data.toList.drop k') m = (n, r)) := by
          have := HD.out
          rwa [hrd, digs_no hc] at this
        clear hc hrd HD HP hor hsh hpw hm hm64
        go_wp2_with fail
        refine HS.out.mono ?_
        rintro e w2 ⟨rfl, h2⟩
        clear HS
        go_wp2
        go_roundw
        case rel => exact ⟨m, a + 1, k', by omega, hk', hpw2, rfl, by go_num, h2, HD2⟩
        case measure => simp [intOf]; omega
    · have e1 : (List.range L.toNat).drop a = [] := List.drop_eq_nil_of_le (by simp; omega)
      have hD := HD.out
      rw [e1] at hD
      simp only [digs, Prod.mk.injEq] at hD
      obtain ⟨rfl, hr⟩ := hD
      by_cases hc : T.data.toList[k']? = some 93
      · have HS := Lib.hid (expect_yes HP.out hT 93 93 rfl hc)
        have hk2 : k' + 1 ≤ T.size := (data_bt hc).2
        have HR : Hid (r = 93 :: T.data.toList.drop (k' + 1)) := by rw [Hid, ← hr, drop_yes hc]
        clear hc hr HD HP e1
        go_wp2_with fail
        refine HS.out.mono ?_
        rintro e w2 ⟨rfl, h2⟩
        clear HS
        go_wp2
        go_ret
        exact .inl ⟨k' + 1, hk2, HR.out, rfl, h2⟩
      · have HS := Lib.hid (expect_no HP.out hk' 93 93 rfl hc)
        have HR : Hid (∀ r', r ≠ 93 :: r') := fun r' e => hc (drop_get (hr.trans e)).1
        clear hc hr HD HP e1
        go_wp2_with fail
        refine HS.out.mono ?_
        rintro e w2 ⟨rfl, h2⟩
        exact ⟨rfl, .inr ⟨HR.out, rfl, h2⟩⟩
end Go.Proofs.YtaelgnmklepebaaDoor.Fm
