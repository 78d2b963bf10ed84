/- The walks of package form: the parser's state; skip, expect, next, add. The walks of package form: add, set. -/
import Derived.Test.YtloihkoamccacaaGreatDoorFormW
import Derived.Test.YtloihkoamccacaaGreatDoorWrite
import Derived.PlainAid
import Derived.Deep.QuietTactic
import Derived.BigQuiet

namespace Go.Proofs.YtloihkoamccacaaGreatDoor.Fm
open Go.RowKit Go.IntWalk Go.PlainAid Go.Proofs.YtloihkoamccacaaGreatDoor.Wd Go.Proofs.YtloihkoamccacaaGreatDoor.Wo

def ePar (g : Nat) (l : List Value) : Ent := ⟨74, 4, .slice (some ⟨g, 0, none⟩) 1 1, 1, l⟩
theorem par_cell {w0 w : World} {g : Nat} {l : List Value} {es fs : List Ent} (h : Own w0 w (ePar g l :: es) fs) {j : Nat} {u : Value} (hj : l[j]? = some u) : w.cell? ⟨g, j, none⟩ = some u ∧ w.frozen? ⟨g, j, none⟩ = false := h.cell (List.mem_cons_self : ePar g l ∈ (ePar g l :: es) ++ fs) hj
theorem par_set {w0 w : World} {g : Nat} {l : List Value} {es fs : List Ent} (h : Own w0 w (ePar g l :: es) fs) (j : Nat) (u : Value) : Own w0 (w.setCell ⟨g, j, none⟩ u) (ePar g (l.set j u) :: es) fs := h.set j u
/-- The parser: its block g, its text, where it stands, the nodes so far. -/
def Pr (w0 : World) (g : Nat) (T : ByteArray) (L : Int) (fs : List Ent) (w : World) (k : Nat) (f : List Nd) : Prop :=
  ∃ v, Own w0 w [ePar g [.string T, .int .i64 (k : Int), v, .int .i64 L], eNodes v f] fs
theorem Pr.on {w0 w w1 : World} {g : Nat} {T : ByteArray} {L : Int} {fs : List Ent} {k : Nat} {f : List Nd} (h : Pr w0 g T L fs w k f) (hb : Below w.heap.size w w1) : Pr w0 g T L fs w1 k f := by
  obtain ⟨v, h⟩ := h
  exact ⟨v, h.on hb⟩
theorem Pr.only {w0 w : World} {g : Nat} {T : ByteArray} {L : Int} {fs : List Ent} {k : Nat} {f : List Nd} (h : Pr w0 g T L fs w k f) : Own w0 w [] fs := by
  obtain ⟨v, h⟩ := h
  exact h.only
theorem Pr.cells {w0 w : World} {g : Nat} {T : ByteArray} {L : Int} {fs : List Ent} {k : Nat} {f : List Nd} (h : Pr w0 g T L fs w k f) :
    w.cell? ⟨g, 0, none⟩ = some (.string T) ∧ w.cell? ⟨g, 1, none⟩ = some (.int .i64 (k : Int)) ∧ w.cell? ⟨g, 3, none⟩ = some (.int .i64 L) ∧ w.frozen? ⟨g, 1, none⟩ = false := by
  obtain ⟨v, h⟩ := h
  exact ⟨(par_cell (j := 0) h rfl).1, (par_cell (j := 1) h rfl).1, (par_cell (j := 3) h rfl).1, (par_cell (j := 1) h rfl).2⟩
theorem Pr.step {w0 w : World} {g : Nat} {T : ByteArray} {L : Int} {fs : List Ent} {k : Nat} {f : List Nd} (h : Pr w0 g T L fs w k f) : Pr w0 g T L fs (w.setCell ⟨g, 1, none⟩ (.int .i64 ((k : Int) + 1))) (k + 1) f := by
  obtain ⟨v, h⟩ := h
  refine ⟨v, ?_⟩
  have := par_set h 1 (.int .i64 ((k : Int) + 1))
  simpa using this
theorem data_bt {T : ByteArray} {k : Nat} {c : UInt8} (h : T.data.toList[k]? = some c) : bt T k = (c.toNat : Int) ∧ k < T.size := by
  obtain ⟨h1, h2⟩ := List.getElem?_eq_some_iff.1 h
  have h3 : k < T.size := by rw [data_len] at h1; exact h1
  refine ⟨?_, h3⟩
  unfold bt
  rw [dif_pos h3, ← h2]
  rfl
theorem u8_inj {a b : UInt8} (h : (a.toNat : Int) = (b.toNat : Int)) : a = b := UInt8.toNat_inj.1 (by exact_mod_cast h)
/-- The letter is there: it is gone past. -/
theorem skip_yes {w0 w : World} {g : Nat} {T : ByteArray} {L : Int} {fs : List Ent} {k : Nat} {f : List Nd} (h : Pr w0 g T L fs w k f) (hT : T.size ≤ 300) (c : UInt8) (x : Int) (hx : (c.toNat : Int) = x) (hc : T.data.toList[k]? = some c) :
    Calls Tryz.prog 90 #[.pointer (some ⟨g, 0, none⟩), .int .u8 x] w fun e w' => e = .returned (.bool true) ∧ Hid (Pr w0 g T L fs w' (k + 1) f) := by
  obtain ⟨hb, hk⟩ := data_bt hc
  rw [hx] at hb
  have hbt := get_bt T
  have hq : ((k : Int) == (T.size : Int)) = false := beq_eq_false_iff_ne.2 (by omega)
  have hN : Hid (Pr w0 g T L fs (w.drew.setCell ⟨g, 1, none⟩ (.int .i64 ((k : Int) + 1))) (k + 1) f) := (h.on (below_drewN (Below.refl _ _) 1)).step
  obtain ⟨c0, c1, _, z1⟩ := h.cells
  have hne : (x != x) = false := by simp
  clear h hc hx
  go_enter Tryz.func90, Tryz.ntmps90
  go_wp2_with fail
  go_region
  go_wp2
  go_ret
  exact ⟨rfl, hN⟩
theorem bt_some {T : ByteArray} {k : Nat} (h : k < T.size) : ∃ c, T.data.toList[k]? = some c ∧ bt T k = ((c : UInt8).toNat : Int) := by
  have hl : k < T.data.toList.length := by rw [data_len]; exact h
  exact ⟨T.data.toList[k], List.getElem?_eq_getElem hl, (data_bt (List.getElem?_eq_getElem hl)).1⟩
/-- It is not there. -/
theorem skip_no {w0 w : World} {g : Nat} {T : ByteArray} {L : Int} {fs : List Ent} {k : Nat} {f : List Nd} (h : Pr w0 g T L fs w k f) (hk : k ≤ T.size) (c : UInt8) (x : Int) (hx : (c.toNat : Int) = x) (hc : T.data.toList[k]? ≠ some c) :
    Calls Tryz.prog 90 #[.pointer (some ⟨g, 0, none⟩), .int .u8 x] w fun e w' => e = .returned (.bool false) ∧ Hid (Pr w0 g T L fs w' k f) := by
  have hbt := get_bt T
  have hN : Hid (Pr w0 g T L fs w.drew k f) := h.on (below_drewN (Below.refl _ _) 1)
  obtain ⟨c0, c1, _, z1⟩ := h.cells
  by_cases hks : k < T.size
  · have hq : ((k : Int) == (T.size : Int)) = false := beq_eq_false_iff_ne.2 (by omega)
    obtain ⟨d, hd, hdb⟩ := bt_some hks
    have hne : (bt T k != x) = true := by
      rw [hdb, ← hx]
      simp only [bne_iff_ne, ne_eq]
      exact fun e => hc (by rw [hd, u8_inj e])
    clear h hc hx hd hdb
    go_enter Tryz.func90, Tryz.ntmps90
    go_wp2_with fail
    go_region
    go_wp2
    go_ret
    exact ⟨rfl, hN⟩
  · obtain rfl : k = T.size := by omega
    have hq : ((T.size : Int) == (T.size : Int)) = true := beq_self_eq_true _
    clear h hc hx
    go_enter Tryz.func90, Tryz.ntmps90
    go_wp2_with fail
    go_region
    go_wp2
    go_ret
    exact ⟨rfl, hN⟩
/-- What gives up: the rows that were there stand. -/
def Gave (w0 : World) (fs : List Ent) (n : Nat) (e : Ending) (w' : World) : Prop := e = .panicked [panicOf n] ∧ Hid (Own w0 w' [] fs)
theorem expect_yes {w0 w : World} {g : Nat} {T : ByteArray} {L : Int} {fs : List Ent} {k : Nat} {f : List Nd} (h : Pr w0 g T L fs w k f) (hT : T.size ≤ 300) (c : UInt8) (x : Int) (hx : (c.toNat : Int) = x) (hc : T.data.toList[k]? = some c) :
    Calls Tryz.prog 102 #[.pointer (some ⟨g, 0, none⟩), .int .u8 x] w fun e w' => e = .returned (.tuple #[]) ∧ Hid (Pr w0 g T L fs w' (k + 1) f) := by
  have HS := Lib.hid (skip_yes h hT c x hx hc)
  clear h hc hx hT
  go_enter Tryz.func102, Tryz.ntmps102
  go_wp2_with fail
  refine HS.out.mono ?_
  rintro e w2 ⟨rfl, h2⟩
  clear HS
  go_wp2
  go_end0
  exact ⟨rfl, h2⟩
theorem expect_no {w0 w : World} {g : Nat} {T : ByteArray} {L : Int} {fs : List Ent} {k : Nat} {f : List Nd} (h : Pr w0 g T L fs w k f) (hk : k ≤ T.size) (c : UInt8) (x : Int) (hx : (c.toNat : Int) = x) (hc : T.data.toList[k]? ≠ some c) :
    Calls Tryz.prog 102 #[.pointer (some ⟨g, 0, none⟩), .int .u8 x] w (Gave w0 fs 2) := by
  have HS := Lib.hid (skip_no h hk c x hx hc)
  clear h hc hx hk
  go_enter Tryz.func102, Tryz.ntmps102
  go_wp2_with fail
  refine HS.out.mono ?_
  rintro e w2 ⟨rfl, h2⟩
  clear HS
  go_wp2
  exact ⟨rfl, rfl, h2.out.only⟩
theorem next_yes {w0 w : World} {g : Nat} {T : ByteArray} {L : Int} {fs : List Ent} {k : Nat} {f : List Nd} (h : Pr w0 g T L fs w k f) (hT : T.size ≤ 300) (c : UInt8) (x : Int) (hx : (c.toNat : Int) = x) (hc : T.data.toList[k]? = some c) :
    Calls Tryz.prog 104 #[.pointer (some ⟨g, 0, none⟩)] w fun e w' => e = .returned (.int .u8 x) ∧ Hid (Pr w0 g T L fs w' (k + 1) f) := by
  obtain ⟨hb, hk⟩ := data_bt hc
  rw [hx] at hb
  have hbt := get_bt T
  have hq : ((k : Int) == (T.size : Int)) = false := beq_eq_false_iff_ne.2 (by omega)
  obtain ⟨W2, hW2⟩ : ∃ W2, W2 = w.setCell ⟨g, 1, none⟩ (.int .i64 ((k : Int) + 1)) := ⟨_, rfl⟩
  have h2 : Pr w0 g T L fs W2 (k + 1) f := by rw [hW2]; exact h.step
  have HW2 := Lib.hid hW2
  have hN : Hid (Pr w0 g T L fs W2.drew.drew (k + 1) f) := h2.on (below_drewN (Below.refl _ _) 2)
  obtain ⟨c0, c1, _, z1⟩ := h.cells
  obtain ⟨d0, d1, _, _⟩ := h2.cells
  clear h hc hx h2 hW2
  go_enter Tryz.func104, Tryz.ntmps104
  go_wp2_with fail
  go_region
  go_wp2_with fail
  rw [← HW2.out]
  go_region
  go_wp2
  go_ret
  exact ⟨rfl, hN⟩
theorem next_no {w0 w : World} {g : Nat} {T : ByteArray} {L : Int} {fs : List Ent} {f : List Nd} (h : Pr w0 g T L fs w T.size f) :
    Calls Tryz.prog 104 #[.pointer (some ⟨g, 0, none⟩)] w (Gave w0 fs 2) := by
  have hq : ((T.size : Int) == (T.size : Int)) = true := beq_self_eq_true _
  have hN : Hid (Own w0 w.drew [] fs) := h.only.drewN 1
  obtain ⟨c0, c1, _, z1⟩ := h.cells
  clear h
  go_enter Tryz.func104, Tryz.ntmps104
  go_wp2_with fail
  go_region
  go_wp2
  exact ⟨rfl, rfl, hN⟩
end Go.Proofs.YtloihkoamccacaaGreatDoor.Fm

namespace Go.Proofs.YtloihkoamccacaaGreatDoor.Fm
open Go.RowKit Go.IntWalk Go.PlainAid Go.Proofs.YtloihkoamccacaaGreatDoor.Wd Go.Proofs.YtloihkoamccacaaGreatDoor.Wo

set_option maxRecDepth 100000 in
theorem add_any {w0 w : World} {g : Nat} {T : ByteArray} {L : Int} {fs : List Ent} {k : Nat} {f : List Nd} (h : Pr w0 g T L fs w k f) (hf : f.length ≤ 1000) (n : Nd) :
    Calls Tryz.prog 91 #[.pointer (some ⟨g, 2, none⟩), .int .i64 n.1, .int .i64 n.2.1, .int .i64 n.2.2] w fun e w' => e = .returned (.int .i64 f.length) ∧ Hid (Pr w0 g T L fs w' k (f ++ [n])) := by
  obtain ⟨v, h⟩ := h
  obtain ⟨x, a, b⟩ := n
  have HO := Lib.hid h
  have c2 := (par_cell (j := 2) h rfl).1
  clear h
  show Calls _ _ #[_, .int .i64 x, .int .i64 a, .int .i64 b] _ _
  go_enter Tryz.func91, Tryz.ntmps91
  go_wp2_with (at_builtin; refine own_node (m := (x, a, b)) rfl _ _ rfl rfl HO.out.two rfl (by omega) ?_)
  intro g2 cap2 w3 ho
  have H3 := Lib.hid ho.two
  have hz := (par_cell (j := 2) H3.out rfl).2
  have h31 := (par_cell (j := 2) H3.out rfl).1
  have H4 := Lib.hid (par_set H3.out 2 (.slice (some ⟨g2, 0, none⟩) (f.length + 1) cap2))
  clear ho HO
  go_wp2
  go_ret
  exact ⟨by show Ending.returned (Value.int IntKind.i64 _) = _; congr 2, _, H4.out⟩
theorem drop_yes {l : List UInt8} {k : Nat} {c : UInt8} (h : l[k]? = some c) : l.drop k = c :: l.drop (k + 1) := by
  obtain ⟨h1, h2⟩ := List.getElem?_eq_some_iff.1 h
  rw [List.drop_eq_getElem_cons h1, h2]
theorem drop_get {l : List UInt8} {k : Nat} {c : UInt8} {s : List UInt8} (h : l.drop k = c :: s) : l[k]? = some c ∧ l.drop (k + 1) = s := by
  have h1 : (l.drop k)[0]? = some c := by rw [h]; rfl
  rw [List.getElem?_drop, Nat.add_zero] at h1
  have h2 := drop_yes h1
  rw [h] at h2
  simp at h2
  exact ⟨h1, h2.symm⟩
theorem drop_not {l : List UInt8} {k : Nat} {c : UInt8} (h : ∀ s, l.drop k ≠ c :: s) : l[k]? ≠ some c := fun e => h _ (drop_yes e)
theorem digs_yes {l : List UInt8} {k a m : Nat} {al : List Nat} (h : l[k]? = some (dg a)) : digs (a :: al) (l.drop k) m = digs al (l.drop (k + 1)) (m + 2 ^ a) := by
  rw [drop_yes h]; simp [digs]
theorem digs_no {l : List UInt8} {k a m : Nat} {al : List Nat} (h : l[k]? ≠ some (dg a)) : digs (a :: al) (l.drop k) m = digs al (l.drop k) m := by
  rcases hd : l.drop k with _ | ⟨c, s⟩
  · rfl
  · have h1 := (drop_get hd).1
    have hne : c ≠ dg a := fun e => h (by rw [h1, e])
    simp [digs, hne]
theorem range_drop {L a : Nat} (h : a < L) : (List.range L).drop a = a :: (List.range L).drop (a + 1) := by
  rw [List.drop_eq_getElem_cons (by simpa using h)]
  simp
theorem or_low : ∀ a : Nat, a < 6 → ∀ m : Nat, m < 64 → m < 2 ^ a → bits .or .i64 (m : Int) ((2 ^ a : Nat) : Int) = ((m + 2 ^ a : Nat) : Int) := by decide +kernel
theorem shl_low : ∀ a : Nat, a < 6 → wrap64 ((2 : Int) ^ a) = ((2 ^ a : Nat) : Int) := by decide +kernel
set_option maxRecDepth 100000 in
set_option maxHeartbeats 1000000 in
theorem set_any {w0 w : World} {g : Nat} {T : ByteArray} {L : Int} {fs : List Ent} {k : Nat} {f : List Nd} (h : Pr w0 g T L fs w k f) (hT : T.size ≤ 300) (hk : k ≤ T.size) (h1 : 1 ≤ L) (h6 : L ≤ 6) {n : Nat} {r : List UInt8} (hd : digs (List.range L.toNat) (T.data.toList.drop k) 0 = (n, r)) :
    Calls Tryz.prog 105 #[.pointer (some ⟨g, 0, none⟩)] w fun e w' =>
      (∃ k', k' ≤ T.size ∧ r = 93 :: T.data.toList.drop k' ∧ e = .returned (.int .i64 (n : Int)) ∧ Hid (Pr w0 g T L fs w' k' f)) ∨ ((∀ r', r ≠ 93 :: r') ∧ Gave w0 fs 2 e w') := by
  have HP := Lib.hid h
  have HD : Hid (digs ((List.range L.toNat).drop 0) (T.data.toList.drop k) 0 = (n, r)) := hd
  obtain ⟨_, _, c3, _⟩ := h.cells
  clear h hd
  go_enter Tryz.func105, Tryz.ntmps105
  go_wp2
  go_loopw [3, 9] (fun s i wr => ∃ (m a k' : Nat), a ≤ L.toNat ∧ k' ≤ T.size ∧ m < 2 ^ a ∧ s = .int .i64 (m : Int) ∧ i = .int .i64 (a : Int) ∧ Hid (Pr w0 g T L fs wr k' f) ∧ Hid (digs ((List.range L.toNat).drop a) (T.data.toList.drop k') m = (n, r))) (fun _ i _ => 6 - (intOf i).toNat)
  case atStart => exact ⟨0, 0, k, by omega, hk, by simp, rfl, rfl, HP, HD⟩
  case round =>
    clear HP HD c3
    obtain ⟨m, a, k', ha, hk', hm, rfl, rfl, HP, HD⟩ := hrel
    by_cases hlt : (a : Int) < L
    · have ha6 : a < 6 := by omega
      have hm64 : m < 64 := Nat.lt_of_lt_of_le hm (by have := Nat.pow_le_pow_right (n := 2) (by decide) (show a ≤ 6 by omega); simpa using this)
      have hor := or_low a ha6 m hm64 hm
      have hsh := shl_low a ha6
      have hu1 := (u8_low ha6).1
      have hu2 := (u8_low ha6).2
      have hpw : m + 2 ^ a < 2 ^ (a + 1) := by rw [Nat.pow_succ]; omega
      have hpw2 : m < 2 ^ (a + 1) := by rw [Nat.pow_succ]; omega
      have hrd := range_drop (show a < L.toNat by omega)
      by_cases hc : T.data.toList[k']? = some (dg a)
      · have HS := Lib.hid (skip_yes HP.out hT (dg a) (48 + (a : Int)) (dg_num ha6) hc)
        have HD2 : Hid (digs ((List.range L.toNat).drop (a + 1)) (T.data.toList.drop (k' + 1)) (m + 2 ^ a) = (n, r)) := by
          have := HD.out
          rwa [hrd, digs_yes hc] at this
        have hk2 : k' + 1 ≤ T.size := (data_bt hc).2
        obtain ⟨P, hP⟩ : ∃ P : Nat, P = 2 ^ a := ⟨_, rfl⟩
        rw [← hP] at hor hsh hpw HD2
        clear hc hrd HD HP hP hm hpw2 hm64
        go_wp2_with fail
        refine HS.out.mono ?_
        rintro e w2 ⟨rfl, h2⟩
        clear HS
        go_wp2
        go_roundw
        case rel => exact ⟨m + P, a + 1, k' + 1, by omega, hk2, hpw, by go_num, by go_num, h2, HD2⟩
        case measure => simp [intOf]; omega
      · have HS := Lib.hid (skip_no HP.out hk' (dg a) (48 + (a : Int)) (dg_num ha6) hc)
        have HD2 : Hid (digs ((List.range L.toNat).drop (a + 1)) (T.data.toList.drop k') m = (n, r)) := by
          have := HD.out
          rwa [hrd, digs_no hc] at this
        clear hc hrd HD HP hor hsh hpw hm hm64
        go_wp2_with fail
        refine HS.out.mono ?_
        rintro e w2 ⟨rfl, h2⟩
        clear HS
        go_wp2
        go_roundw
        case rel => exact ⟨m, a + 1, k', by omega, hk', hpw2, rfl, by go_num, h2, HD2⟩
        case measure => simp [intOf]; omega
    · have e1 : (List.range L.toNat).drop a = [] := List.drop_eq_nil_of_le (by simp; omega)
      have hD := HD.out
      rw [e1] at hD
      simp only [digs, Prod.mk.injEq] at hD
      obtain ⟨rfl, hr⟩ := hD
      by_cases hc : T.data.toList[k']? = some 93
      · have HS := Lib.hid (expect_yes HP.out hT 93 93 rfl hc)
        have hk2 : k' + 1 ≤ T.size := (data_bt hc).2
        have HR : Hid (r = 93 :: T.data.toList.drop (k' + 1)) := by rw [Hid, ← hr, drop_yes hc]
        clear hc hr HD HP e1
        go_wp2_with fail
        refine HS.out.mono ?_
        rintro e w2 ⟨rfl, h2⟩
        clear HS
        go_wp2
        go_ret
        exact .inl ⟨k' + 1, hk2, HR.out, rfl, h2⟩
      · have HS := Lib.hid (expect_no HP.out hk' 93 93 rfl hc)
        have HR : Hid (∀ r', r ≠ 93 :: r') := fun r' e => hc (drop_get (hr.trans e)).1
        clear hc hr HD HP e1
        go_wp2_with fail
        refine HS.out.mono ?_
        rintro e w2 ⟨rfl, h2⟩
        exact ⟨rfl, .inr ⟨HR.out, rfl, h2⟩⟩
end Go.Proofs.YtloihkoamccacaaGreatDoor.Fm
