/- The walk of the reference's Text. -/
import Derived.Test.YtlhhhdgkdbplmaaDoorRefForm
import Derived.Test.YtlhhhdgkdbplmaaDoorTexts
import Derived.Deep.QuietTactic
import Derived.BigQuiet
namespace Go.Proofs.YtlhhhdgkdbplmaaDoor.Fm
open Go.RowKit Go.IntWalk Go.Proofs.YtlhhhdgkdbplmaaDoor.Wd Go.Proofs.YtlhhhdgkdbplmaaDoor.Wo

theorem infoTx : (Tryd.prog.info? 9).map (fun i => (i.zero, i.size, i.bytes)) = some (some (.string .empty), 1, 16) := by kernel_rfl
def eTexts (v : Value) (l : List (List UInt8)) : Ent := ⟨9, 1, v, l.length, l.map tx⟩
/-- 'append(l, s)' of one text. -/
theorem own_text {w0 w : World} {ops : Array Oper} {rest : List Oper} {o : Oper} {a : Act} {Q : Exit → Act → World → Prop} (hgd : o.guard = none) (s x : Operand)
    (ho : o.op = .call { callee := .builtin .append, args := #[s, x], argTypes := #[92, 92] })
    {v : Value} {l : List (List UInt8)} {es fs : List Ent} (hs : a.eval s = v) (h : Own w0 w (eTexts v l :: es) fs) {y : ByteArray} (t : List UInt8) (hy : y = str t) {t' : TypeId} (hx : a.eval x = .slice (some ⟨w.heap.size, 0, none⟩) 1 1) (hb : l.length < 1099511627776)
    (hK : ∀ g cap w', Own w0 w' (eTexts (.slice (some ⟨g, 0, none⟩) (l.length + 1) cap) (l ++ [t]) :: es) fs → wpList Tryd.prog ops Q rest (a.put o.dst (.slice (some ⟨g, 0, none⟩) (l.length + 1) cap)) w') : wpList Tryd.prog ops Q (o :: rest) a (w.alloc (.cells #[.string y] t')) := by
  subst hy
  refine own_append_lit hgd s x _ ho Tryd.underlying92 infoTx rfl (by decide) hs h hx rfl (fun u hu => by simp at hu; subst hu; rfl) (by omega) (by unfold maxLen; omega) (by omega) ?_
  intro g cap w' ho
  refine hK g cap w' ?_
  unfold eTexts
  simpa [tx] using ho
theorem texts_form {w0 w : World} {es fs : List Ent} {v : Value} {l : List (List UInt8)} (h : Own w0 w es fs) (he : eTexts v l ∈ es ++ fs) : ∃ A cap, v = .slice A l.length cap ∧ l.length ≤ cap ∧ cap ≤ 9223372036854775807 ∧ TextsAt w w.heap.size A l := by
  obtain ⟨A, cap, hv, h1, h2, _⟩ := h.form he
  simp only [eTexts] at hv h1
  subst hv
  unfold maxLen at h2
  exact ⟨A, cap, rfl, h1, h2, h.cells he⟩
theorem bools_form {w0 w : World} {es fs : List Ent} {v : Value} {l : List Bool} (h : Own w0 w es fs) (he : eBools v l ∈ es ++ fs) : ∃ A cap, v = .slice A l.length cap ∧ l.length ≤ cap ∧ cap ≤ 9223372036854775807 ∧ Cells w w.heap.size A (l.map Value.bool) := by
  obtain ⟨A, cap, hv, h1, h2, _⟩ := h.form he
  simp only [eBools] at hv h1
  subst hv
  unfold maxLen at h2
  exact ⟨A, cap, rfl, h1, h2, h.cells he⟩
theorem str_append (a b : List UInt8) : str a ++ str b = str (a ++ b) := by
  apply ByteArray.ext
  simp [str]
theorem sig_cut {k : Nat} (hk : k ≤ 9) (w : World) : (Instr.slice 9 (.string { data := #[116, 102, 91, 33, 38, 124, 88, 87, 85, 82] }) (some (.int .i64 (k : Int))) (some (.int .i64 ((k : Int) + 1))) none).run Tryd.prog w = .ok (.string (str [sgn k])) w := by
  have h := run_slice_string (P := Tryd.prog) w 9 { data := #[116, 102, 91, 33, 38, 124, 88, 87, 85, 82] } .i64 .i64 (k : Int) ((k : Int) + 1) Tryd.underlying9 (by omega) (by omega) (by have : ByteArray.size { data := #[116, 102, 91, 33, 38, 124, 88, 87, 85, 82] } = 10 := rfl; omega)
  rw [h]
  have : k = 0 ∨ k = 1 ∨ k = 2 ∨ k = 3 ∨ k = 4 ∨ k = 5 ∨ k = 6 ∨ k = 7 ∨ k = 8 ∨ k = 9 := by omega
  rcases this with rfl | rfl | rfl | rfl | rfl | rfl | rfl | rfl | rfl | rfl <;> rfl
theorem has_nat (v k : Nat) : has (v : Int) (k : Int) = v.testBit k := by
  rw [Nat.testBit_eq_decide_div_mod_eq]
  unfold has
  rw [Int.toNat_natCast, Int.toNat_natCast, Bool.eq_iff_iff]
  simp
theorem num_cut {k : Nat} (hk : k < 6) (w : World) : (Instr.slice 9 (.string { data := #[48, 49, 50, 51, 52, 53] }) (some (.int .i64 (k : Int))) (some (.int .i64 ((k : Int) + 1))) none).run Tryd.prog w = .ok (.string (str [dg k])) w := by
  have h := run_slice_string (P := Tryd.prog) w 9 { data := #[48, 49, 50, 51, 52, 53] } .i64 .i64 (k : Int) ((k : Int) + 1) Tryd.underlying9 (by omega) (by omega) (by have : ByteArray.size { data := #[48, 49, 50, 51, 52, 53] } = 6 := rfl; omega)
  rw [h]
  have : k = 0 ∨ k = 1 ∨ k = 2 ∨ k = 3 ∨ k = 4 ∨ k = 5 := by omega
  rcases this with rfl | rfl | rfl | rfl | rfl | rfl <;> rfl
/-! ### the walk -/
/-- The rows of the table so far. -/
abbrev RT (w0 w : World) (v bv : Value) (R : List (List UInt8 × Bool)) : Prop := Own w0 w [eTexts v (R.map (·.1)), eBools bv (R.map (·.2))] []
theorem rt_texts {w0 w : World} {v bv : Value} {R : List (List UInt8 × Bool)} (h : RT w0 w v bv R) : ∃ A cap, v = .slice A R.length cap ∧ R.length ≤ cap ∧ cap ≤ 9223372036854775807 ∧ ∀ k p, R[k]? = some p → ∃ ad, A = some ad ∧ ad.block < w.heap.size ∧ w.cell? (ad.add k) = some (.string (str p.1)) := by
  obtain ⟨A, cap, hv, h1, h2, h3⟩ := texts_form h (v := v) (l := R.map (·.1)) (by simp)
  rw [List.length_map] at hv h1
  refine ⟨A, cap, hv, h1, h2, fun k p hk => ?_⟩
  obtain ⟨ad, e, hlt, hc⟩ := h3 k (.string (str p.1)) (by simp [hk, tx])
  exact ⟨ad, e, hlt, hc⟩
theorem rt_bools {w0 w : World} {v bv : Value} {R : List (List UInt8 × Bool)} (h : RT w0 w v bv R) : ∃ A cap, bv = .slice A R.length cap ∧ R.length ≤ cap ∧ cap ≤ 9223372036854775807 ∧ ∀ k p, R[k]? = some p → ∃ ad, A = some ad ∧ ad.block < w.heap.size ∧ w.cell? (ad.add k) = some (.bool p.2) := by
  obtain ⟨A, cap, hv, h1, h2, h3⟩ := bools_form h (v := bv) (l := R.map (·.2)) (by simp)
  rw [List.length_map] at hv h1
  refine ⟨A, cap, hv, h1, h2, fun k p hk => ?_⟩
  obtain ⟨ad, e, hlt, hc⟩ := h3 k (.bool p.2) (by simp [hk])
  exact ⟨ad, e, hlt, hc⟩
theorem RT.on {w0 w w1 : World} {v bv : Value} {R : List (List UInt8 × Bool)} (h : RT w0 w v bv R) (hb : Below w.heap.size w w1) : RT w0 w1 v bv R := Own.on h hb
theorem rone_leaf {k b : Int} {a : Int} (R : List (List UInt8 × Bool)) (h2 : k ≠ 2) (h : ops k = 0) : rone (k, a, b) R = ([sgn k.toNat], false) := by
  simp only [rone, if_neg h2, if_neg (show ¬ ops k = 1 by omega), if_neg (show ¬ ops k = 2 by omega)]
  rw [if_neg (by simp)]
theorem rone_set {b : Int} {a : Int} (R : List (List UInt8 × Bool)) : rone (2, a, b) R = (setText (bitsOf a.toNat), false) := by
  have := setText_short a.toNat
  have h : ops 2 = 0 := by decide
  simp only [rone, if_neg (show ¬ ops 2 = 1 by omega), if_neg (show ¬ ops 2 = 2 by omega), if_true]
  rw [if_neg (by omega)]
theorem rone_un {k b : Int} {a : Int} {R : List (List UInt8 × Bool)} {s : List UInt8} {m : Bool} (h : ops k = 1) (hp : R[a.toNat]? = some (s, m)) : rone (k, a, b) R = if 300 < s.length + 1 then ([], true) else (sgn k.toNat :: s, m) := by
  have h2 : k ≠ 2 := fun e => by subst e; exact absurd h (by decide)
  simp only [rone, if_neg h2, if_pos h]
  rw [List.getD_eq_getElem?_getD, hp]
  simp
theorem rone_bin {k a b : Int} {R : List (List UInt8 × Bool)} {s t : List UInt8} {m n : Bool} (h : ops k = 2) (hp : R[a.toNat]? = some (s, m)) (hq : R[b.toNat]? = some (t, n)) :
    rone (k, a, b) R = if 300 < s.length + t.length + 3 then ([], true) else (40 :: (s ++ sgn k.toNat :: (t ++ [41])), m || n) := by
  have h2 : k ≠ 2 := fun e => by subst e; exact absurd h (by decide)
  simp only [rone, if_neg h2, if_neg (show ¬ ops k = 1 by omega), if_pos h]
  rw [List.getD_eq_getElem?_getD, List.getD_eq_getElem?_getD, hp, hq]
  have : (40 :: (s ++ sgn k.toNat :: (t ++ [41]))).length = s.length + t.length + 3 := by simp; omega
  simp only [Option.getD_some]
  rw [this]
/-- One more row. -/
theorem rt_more {f : List Nd} {i : Nat} {n : Nd} (h : f[i]? = some n) {p : List UInt8} {m : Bool} (hr : rone n (rtab (f.take i)) = (p, m)) : (rtab (f.take (i + 1))).map (·.1) = (rtab (f.take i)).map (·.1) ++ [p] ∧ (rtab (f.take (i + 1))).map (·.2) = (rtab (f.take i)).map (·.2) ++ [m] := by
  rw [rtab_take_succ h, hr]
  simp
set_option maxRecDepth 100000 in
set_option maxHeartbeats 8000000 in
theorem rtext_any {L : Int} {f : List Nd} (hg : FGood L f) (A : Option Addr) (c : Nat) (w : World) (hA : NodesAt w w.heap.size A f) :
    Calls Tryd.prog 21 #[.slice A f.length c] w fun e w' => Hid (e = .returned (.tuple #[.string (str (wtext L f)), .int .i64 (werr L f)])) ∧ Below w.heap.size w w' := by
  have h0 := hg.ne
  have h40 := hg.le
  have HG := Lib.hid hg
  have HA := Lib.hid hA
  have HS : Hid (RT w w (.slice none 0 0) (.slice none 0 0) (rtab (f.take 0))) := ((own_start w).nil 4 1).nil 9 1
  clear hg hA
  go_enter Tryd.func21, Tryd.ntmps21
  go_wp2
  go_loopw [4, 5, 6] (fun s4 s5 i wr => ∃ (v bv : Value) (k : Nat), k ≤ f.length ∧ s4 = v ∧ s5 = bv ∧ i = .int .i64 k ∧ Hid (RT w wr v bv (rtab (f.take k)))) (fun _ _ i _ => f.length - (intOf i).toNat)
  case atStart => exact ⟨_, _, 0, by omega, rfl, rfl, rfl, HS⟩
  case round =>
    clear HS
    obtain ⟨v, bv, i, hk, rfl, rfl, rfl, HR⟩ := hrel
    by_cases hlt : i < f.length
    · obtain ⟨n, hn⟩ : ∃ n, f[i]? = some n := ⟨_, List.getElem?_eq_getElem hlt⟩
      have hgn := HG.out.nd i n hn
      have HB := Lib.hid HR.out.below
      obtain ⟨ad, e, hadb, c0, c1, c2⟩ := (HA.out.on HB.out).at_ hn
      subst e
      obtain ⟨k, a, b⟩ := n
      have HM := fun p m h => (rt_more (p := p) (m := m) hn h)
      have hlen : (rtab (f.take i)).length = i := by rw [rtab_length, List.length_take]; omega
      have hsm : ∀ (j : Nat) (p : List UInt8 × Bool), (rtab (f.take i))[j]? = some p → p.1.length ≤ 300 := fun j p hj => (rtab_tells HG.out.nd i (by omega) j p (by have := (List.getElem?_eq_some_iff.1 hj).1; omega) hj).2.2
      generalize rtab (f.take i) = R at *
      generalize hR2 : rtab (f.take (i + 1)) = R2 at *
      have k0 := hgn.k0
      have k9 := hgn.k9
      simp only at k0 k9 c0 c1 c2
      obtain ⟨K, rfl⟩ := Int.eq_ofNat_of_zero_le k0
      have hcut := fun W => sig_cut (k := K) (by omega) W
      obtain ⟨S, hS⟩ : ∃ S, S = str [sgn K] := ⟨_, rfl⟩
      have hSs : S.size = 1 := by rw [hS, str_size]; rfl
      rw [← hS] at hcut
      have HSS := Lib.hid hS
      have hpr : prt (K : Int) = ops (K : Int) := by unfold prt; rw [if_pos ⟨k0, k9⟩]
      have HP := fun W => Lib.hid (parts_any (K : Int) W)
      rw [hpr] at HP
      obtain ⟨W1, hW1⟩ : ∃ W1, W1 = wr.alloc (.cells #[.int .i64 (K : Int), .int .i64 a, .int .i64 b] 87) := ⟨_, rfl⟩
      have HW1 := Lib.hid hW1
      have d0 : W1.cell? ⟨wr.heap.size, 0, none⟩ = some (.int .i64 (K : Int)) := by rw [hW1]; exact box_at wr _ _ 0
      have d1 : W1.cell? ⟨wr.heap.size, 1, none⟩ = some (.int .i64 a) := by rw [hW1]; exact box_at wr _ _ 1
      have d2 : W1.cell? ⟨wr.heap.size, 2, none⟩ = some (.int .i64 b) := by rw [hW1]; exact box_at wr _ _ 2
      have hr1 := HR.out.on (bel_alloc wr (.cells #[.int .i64 (K : Int), .int .i64 a, .int .i64 b] 87))
      rw [← hW1] at hr1
      have HR1 := Lib.hid hr1
      clear hW1 hS hpr hadb HR hr1
      obtain ⟨TA, tc, htv, t1, t2, htx⟩ := rt_texts HR1.out
      obtain ⟨BA, bc, hbv, b1, b2, hbx⟩ := rt_bools HR1.out
      rw [hlen] at htv hbv t1 b1
      have hl1 : (R.map (·.1)).length < 1099511627776 := by rw [List.length_map]; omega
      have hl2 : (R.map (·.2)).length < 17592186044416 := by rw [List.length_map]; omega
      obtain ⟨l1, hl1e⟩ : ∃ l1, l1 = R.map (·.1) := ⟨_, rfl⟩
      obtain ⟨l2, hl2e⟩ : ∃ l2, l2 = R.map (·.2) := ⟨_, rfl⟩
      have HO : Hid (Own w W1 [eTexts _ (R.map (·.1)), eBools _ (R.map (·.2))] []) := HR1
      rw [← hl1e] at hl1 HO HM
      rw [← hl2e] at hl2 HO HM
      clear hl1e hl2e HR1
      subst htv
      subst hbv
      by_cases h2 : K = 2
      · subst h2
        have hs := hgn.set rfl
        simp only at hs
        obtain ⟨α, rfl⟩ := Int.eq_ofNat_of_zero_le hs.1
        have hone := rone_set (a := (α : Int)) (b := b) R
        rw [Int.toNat_natCast] at hone
        have HM1 := Lib.hid (HM _ _ hone)
        have hbit : ∀ (k : Nat) W, Hid (Calls Tryd.prog 50 #[.int .i64 (α : Int), .int .i64 (k : Int)] W fun e w' => e = .returned (.bool (α.testBit k)) ∧ w' = W) ∨ 6 ≤ k := fun k W => by
          by_cases hk6 : k < 6
          · left
            refine (bit_any (α : Int) (k : Int) W (by omega) ?_ (by omega) (by omega)).mono fun e w' ⟨h, h3⟩ => ⟨by rw [h.out, has_nat], h3.symm⟩
            have hp : (2 : Int) ^ L.toNat ≤ 64 := by
              have h : (2 : Nat) ^ L.toNat ≤ 2 ^ 6 := Nat.pow_le_pow_right (by decide) (by have := HG.out.l6; omega)
              have h2 : ((2 ^ L.toNat : Nat) : Int) ≤ ((2 ^ 6 : Nat) : Int) := by exact_mod_cast h
              simpa using h2
            omega
          · right; omega
        have cst : ((2 : Nat) : Int) = 2 := rfl
        rw [cst] at HW1 d0
        simp only [cst, ops_two] at hcut HP
        clear cst k0 k9
        have HX0 : Hid (S = str (91 :: bitsTo α 0)) := by rw [Hid, HSS.out]; rfl
        have HBIT := Lib.hid hbit
        clear HM hsm hgn hn htx hbx hone hs hbit
        go_wp2_with fail
        refine (HP _).out.mono ?_
        rintro e w2 ⟨rfl, rfl⟩
        rw [← HW1.out]
        clear HP c0 c1 c2
        go_wp2_with fail
        go_loop [10, 12] (fun s i => ∃ (X : ByteArray) (k : Nat), k ≤ 6 ∧ s = .string X ∧ i = .int .i64 k ∧ Hid (X = str (91 :: bitsTo α k))) (fun _ i => 6 - (intOf i).toNat)
        case atStart => exact ⟨S, 0, by omega, by rw [HSS.out]; rfl, rfl, HX0⟩
        case round =>
          obtain ⟨X, k, hk6, rfl, rfl, HX⟩ := hrel
          have hXs : X.size ≤ 7 := by rw [HX.out, str_size]; have := bitsTo_len α k; simp only [List.length_cons]; omega
          by_cases hkl : k < 6
          · rcases HBIT.out k W1 with HBt | h6
            · rcases hb : α.testBit k with _ | _
              · rw [hb] at HBt
                have HN : Hid (X = str (91 :: bitsTo α (k + 1))) := by rw [Hid, HX.out, bitsTo_no hb]
                clear hb
                go_wp2_with fail
                refine HBt.out.mono ?_
                rintro e w3 ⟨rfl, rfl⟩
                clear HBt
                go_wp2
                go_round
                case rel => exact ⟨X, k + 1, by omega, rfl, by go_num, HN⟩
                case measure => simp [intOf]; omega
              · rw [hb] at HBt
                have hcut2 := fun W => num_cut hkl W
                obtain ⟨D, hD⟩ : ∃ D, D = str [dg k] := ⟨_, rfl⟩
                have hDs : D.size = 1 := by rw [hD, str_size]; rfl
                have HN : Hid (X ++ D = str (91 :: bitsTo α (k + 1))) := by rw [Hid, HX.out, hD, str_append, bitsTo_yes hb]; rfl
                rw [← hD] at hcut2
                clear hb hD
                go_wp2_with fail
                refine HBt.out.mono ?_
                rintro e w3 ⟨rfl, rfl⟩
                clear HBt
                go_wp2
                go_round
                case rel => exact ⟨X ++ D, k + 1, by omega, rfl, by go_num, HN⟩
                case measure => simp [intOf]; omega
            · omega
          · obtain rfl : k = 6 := by omega
            have HE : Hid (X ++ { data := #[93] } = str (setText (bitsOf α))) := by
              rw [Hid, HX.out, show ({ data := #[93] } : ByteArray) = str [93] from rfl, str_append]; rfl
            have hEs : (X ++ { data := #[93] }).size ≤ 8 := by rw [ByteArray.size_append]; have : ByteArray.size { data := #[93] } = 1 := rfl; omega
            have w9' : ({ data := #[93] } : ByteArray).size = 1 := rfl
            go_wp2_with (at_builtin; refine own_text rfl _ _ rfl rfl HO.out (setText (bitsOf α)) HE.out rfl hl1 ?_)
            intro g1 cap1 w3 ho1
            have HR3 := Lib.hid ho1.two
            clear ho1 HO
            go_wp2_with (at_builtin; refine own_bool rfl _ _ rfl rfl HR3.out (y := false) rfl hl2 ?_)
            intro g2 cap2 w4 ho2
            have HN : Hid (RT w w4 (.slice (some ⟨g1, 0, none⟩) (l1.length + 1) cap1) (.slice (some ⟨g2, 0, none⟩) (l2.length + 1) cap2) R2) := by
              show Own _ _ [eTexts _ (R2.map (·.1)), eBools _ (R2.map (·.2))] []
              rw [HM1.out.1, HM1.out.2]
              exact ho2.two
            rw [← hR2] at HN
            clear ho2 HR3
            go_wp2
            go_roundw
            case rel => exact ⟨_, _, i + 1, by omega, rfl, rfl, by go_num, HN⟩
            case measure => simp [intOf]; omega
      have z2 : ((K : Int) == 2) = false := beq_eq_false_iff_ne.2 (by omega)
      rcases ops_range (K : Int) with ho | ho | ho
      · have HM1 := Lib.hid (HM _ _ (rone_leaf R (by omega) ho))
        rw [ho] at HP
        clear HM hsm h2 hgn ho hn
        go_wp2_with fail
        refine (HP _).out.mono ?_
        rintro e w2 ⟨rfl, rfl⟩
        rw [← HW1.out]
        clear HP c0 c1 c2
        go_wp2_with (at_builtin; refine own_text rfl _ _ rfl rfl HO.out ([sgn K]) HSS.out rfl hl1 ?_)
        intro g1 cap1 w3 ho1
        have HR3 := Lib.hid ho1.two
        clear ho1 HO
        go_wp2_with (at_builtin; refine own_bool rfl _ _ rfl rfl HR3.out (y := false) rfl hl2 ?_)
        intro g2 cap2 w4 ho2
        have HN : Hid (RT w w4 (.slice (some ⟨g1, 0, none⟩) (l1.length + 1) cap1) (.slice (some ⟨g2, 0, none⟩) (l2.length + 1) cap2) R2) := by
          show Own _ _ [eTexts _ (R2.map (·.1)), eBools _ (R2.map (·.2))] []
          rw [HM1.out.1, HM1.out.2]
          exact ho2.two
        rw [← hR2] at HN
        clear ho2 HR3
        go_wp2
        go_roundw
        case rel => exact ⟨_, _, i + 1, by omega, rfl, rfl, by go_num, HN⟩
        case measure => simp [intOf]; omega
      · have ha := hgn.a1 (by simp only; omega)
        simp only at ha
        obtain ⟨α, rfl⟩ := Int.eq_ofNat_of_zero_le ha.1
        obtain ⟨p, hp⟩ : ∃ p, R[α]? = some p := ⟨_, List.getElem?_eq_getElem (by omega)⟩
        obtain ⟨ta, te, _, tcell⟩ := htx α p hp
        obtain ⟨ba, be, _, bcell⟩ := hbx α p hp
        have hps := hsm α p hp
        obtain ⟨t, m⟩ := p
        have hone := rone_un (k := (K : Int)) (a := (α : Int)) (b := b) ho (by simpa using hp)
        subst te
        subst be
        obtain ⟨X, hX⟩ : ∃ X, X = str t := ⟨_, rfl⟩
        have hXs : X.size = t.length := by rw [hX, str_size]
        have hE : S ++ X = str (sgn K :: t) := by rw [HSS.out, hX, str_append]; rfl
        have HE := Lib.hid hE
        simp only at tcell bcell hps
        rw [← hX] at tcell
        rw [ho] at HP
        by_cases hlong : 300 < t.length + 1
        · rw [if_pos hlong] at hone
          have HM1 := Lib.hid (HM _ _ hone)
          clear HM hsm h2 hgn ho hn htx hbx hp hone hE hX HE
          go_wp2_with fail
          refine (HP _).out.mono ?_
          rintro e w2 ⟨rfl, rfl⟩
          rw [← HW1.out]
          clear HP c0 c1 c2
          go_wp2_with (at_builtin; refine own_text rfl _ _ rfl rfl HO.out ([]) rfl rfl hl1 ?_)
          intro g1 cap1 w3 ho1
          have HR3 := Lib.hid ho1.two
          clear ho1 HO
          go_wp2_with (at_builtin; refine own_bool rfl _ _ rfl rfl HR3.out (y := true) rfl hl2 ?_)
          intro g2 cap2 w4 ho2
          have HN : Hid (RT w w4 (.slice (some ⟨g1, 0, none⟩) (l1.length + 1) cap1) (.slice (some ⟨g2, 0, none⟩) (l2.length + 1) cap2) R2) := by
            show Own _ _ [eTexts _ (R2.map (·.1)), eBools _ (R2.map (·.2))] []
            rw [HM1.out.1, HM1.out.2]
            exact ho2.two
          rw [← hR2] at HN
          clear ho2 HR3
          go_wp2
          go_roundw
          case rel => exact ⟨_, _, i + 1, by omega, rfl, rfl, by go_num, HN⟩
          case measure => simp [intOf]; omega
        · rw [if_neg hlong] at hone
          have HM1 := Lib.hid (HM _ _ hone)
          have hlong2 : t.length + 1 ≤ 300 := by omega
          clear HM hsm h2 hgn ho hn htx hbx hp hone hE hX hlong
          go_wp2_with fail
          refine (HP _).out.mono ?_
          rintro e w2 ⟨rfl, rfl⟩
          rw [← HW1.out]
          clear HP c0 c1 c2
          go_wp2_with (at_builtin; refine own_text rfl _ _ rfl rfl HO.out (sgn K :: t) HE.out rfl hl1 ?_)
          intro g1 cap1 w3 ho1
          have HR3 := Lib.hid ho1.two
          clear ho1 HO
          go_wp2_with (at_builtin; refine own_bool rfl _ _ rfl rfl HR3.out (y := m) rfl hl2 ?_)
          intro g2 cap2 w4 ho2
          have HN : Hid (RT w w4 (.slice (some ⟨g1, 0, none⟩) (l1.length + 1) cap1) (.slice (some ⟨g2, 0, none⟩) (l2.length + 1) cap2) R2) := by
            show Own _ _ [eTexts _ (R2.map (·.1)), eBools _ (R2.map (·.2))] []
            rw [HM1.out.1, HM1.out.2]
            exact ho2.two
          rw [← hR2] at HN
          clear ho2 HR3
          go_wp2
          go_roundw
          case rel => exact ⟨_, _, i + 1, by omega, rfl, rfl, by go_num, HN⟩
          case measure => simp [intOf]; omega
      · have ha := hgn.a1 (by simp only; omega)
        have hb := hgn.b2 (by simp only; omega)
        simp only at ha hb
        obtain ⟨α, rfl⟩ := Int.eq_ofNat_of_zero_le ha.1
        obtain ⟨β, rfl⟩ := Int.eq_ofNat_of_zero_le hb.1
        obtain ⟨p, hp⟩ : ∃ p, R[α]? = some p := ⟨_, List.getElem?_eq_getElem (by omega)⟩
        obtain ⟨q, hq⟩ : ∃ q, R[β]? = some q := ⟨_, List.getElem?_eq_getElem (by omega)⟩
        obtain ⟨ta, te, _, tcell⟩ := htx α p hp
        obtain ⟨ba, be, _, bcell⟩ := hbx α p hp
        obtain ⟨ta2, te2, _, ucell⟩ := htx β q hq
        obtain ⟨ba2, be2, _, ccell⟩ := hbx β q hq
        have hps := hsm α p hp
        have hqs := hsm β q hq
        obtain ⟨t, m⟩ := p
        obtain ⟨u, n⟩ := q
        have hone := rone_bin (k := (K : Int)) (a := (α : Int)) (b := (β : Int)) ho (by simpa using hp) (by simpa using hq)
        subst te
        subst be
        obtain rfl := Option.some.inj te2
        obtain rfl := Option.some.inj be2
        obtain ⟨X, hX⟩ : ∃ X, X = str t := ⟨_, rfl⟩
        obtain ⟨Y, hY⟩ : ∃ Y, Y = str u := ⟨_, rfl⟩
        have hXs : X.size = t.length := by rw [hX, str_size]
        have hYs : Y.size = u.length := by rw [hY, str_size]
        have hE : ((({ data := #[40] } ++ X) ++ S) ++ Y) ++ { data := #[41] } = str (40 :: (t ++ sgn K :: (u ++ [41]))) := by
          rw [HSS.out, hX, hY, show ({ data := #[40] } : ByteArray) = str [40] from rfl, show ({ data := #[41] } : ByteArray) = str [41] from rfl, str_append, str_append, str_append, str_append]
          simp
        have hE2 : (((({ data := #[40] } ++ X) ++ S) ++ Y) ++ { data := #[41] } : ByteArray).size = t.length + u.length + 3 := by rw [hE, str_size]; simp; omega
        have HE := Lib.hid hE
        simp only at tcell bcell hps ucell ccell hqs
        rw [← hX] at tcell
        rw [← hY] at ucell
        rw [ho] at HP
        have w0' : ({ data := #[40] } : ByteArray).size = 1 := rfl
        have w9' : ({ data := #[41] } : ByteArray).size = 1 := rfl
        by_cases hlong : 300 < t.length + u.length + 3
        · rw [if_pos hlong] at hone
          have HM1 := Lib.hid (HM _ _ hone)
          clear HM hsm h2 hgn ho hn htx hbx hp hone hE hX HE hq hY te2 be2
          rcases m with _ | _
          all_goals (
            go_wp2_with fail
            refine (HP _).out.mono ?_
            rintro e w2 ⟨rfl, rfl⟩
            rw [← HW1.out]
            clear HP c0 c1 c2 HW1
            go_wp2_with fail
            go_region
            have HO2 : Hid (Own w W1.drew [eTexts (.slice (some ta) i tc) l1, eBools (.slice (some ba) i bc) l2] []) := HO.out.drewN 1
            replace d0 : W1.drew.cell? _ = _ := d0
            replace d1 : W1.drew.cell? _ = _ := d1
            replace d2 : W1.drew.cell? _ = _ := d2
            replace bcell : W1.drew.cell? _ = _ := bcell
            replace ccell : W1.drew.cell? _ = _ := ccell
            clear HO tcell ucell
            generalize W1.drew = W2 at *
            go_wp2_with (at_builtin; refine own_text rfl _ _ rfl rfl HO2.out ([]) rfl rfl hl1 ?_)
            intro g1 cap1 w3 ho1
            have HR3 := Lib.hid ho1.two
            clear ho1 HO2
            go_wp2_with (at_builtin; refine own_bool rfl _ _ rfl rfl HR3.out (y := true) rfl hl2 ?_)
            intro g2 cap2 w4 ho2
            have HN : Hid (RT w w4 (.slice (some ⟨g1, 0, none⟩) (l1.length + 1) cap1) (.slice (some ⟨g2, 0, none⟩) (l2.length + 1) cap2) R2) := by
              show Own _ _ [eTexts _ (R2.map (·.1)), eBools _ (R2.map (·.2))] []
              rw [HM1.out.1, HM1.out.2]
              exact ho2.two
            rw [← hR2] at HN
            clear ho2 HR3
            go_wp2
            go_roundw
            case rel => exact ⟨_, _, i + 1, by omega, rfl, rfl, by go_num, HN⟩
            case measure => simp [intOf]; omega)
        · rw [if_neg hlong] at hone
          have HM1 := Lib.hid (HM _ _ hone)
          have hlong2 : t.length + u.length + 3 ≤ 300 := by omega
          clear hlong
          clear HM hsm h2 hgn ho hn htx hbx hp hone hE hX hq hY te2 be2
          rcases m with _ | _
          all_goals (
            go_wp2_with fail
            refine (HP _).out.mono ?_
            rintro e w2 ⟨rfl, rfl⟩
            rw [← HW1.out]
            clear HP c0 c1 c2 HW1
            go_wp2_with fail
            go_region
            have HO2 : Hid (Own w W1.drew [eTexts (.slice (some ta) i tc) l1, eBools (.slice (some ba) i bc) l2] []) := HO.out.drewN 1
            replace d0 : W1.drew.cell? _ = _ := d0
            replace d1 : W1.drew.cell? _ = _ := d1
            replace d2 : W1.drew.cell? _ = _ := d2
            replace bcell : W1.drew.cell? _ = _ := bcell
            replace ccell : W1.drew.cell? _ = _ := ccell
            clear HO tcell ucell
            generalize W1.drew = W2 at *
            go_wp2_with (at_builtin; refine own_text rfl _ _ rfl rfl HO2.out (40 :: (t ++ sgn K :: (u ++ [41]))) HE.out rfl hl1 ?_)
            intro g1 cap1 w3 ho1
            have HR3 := Lib.hid ho1.two
            clear ho1 HO2
            go_wp2_with (at_builtin; refine own_bool rfl _ _ rfl rfl HR3.out (y := _) rfl hl2 ?_)
            intro g2 cap2 w4 ho2
            have HN : Hid (RT w w4 (.slice (some ⟨g1, 0, none⟩) (l1.length + 1) cap1) (.slice (some ⟨g2, 0, none⟩) (l2.length + 1) cap2) R2) := by
              show Own _ _ [eTexts _ (R2.map (·.1)), eBools _ (R2.map (·.2))] []
              rw [HM1.out.1, HM1.out.2]
              exact ho2.two
            rw [← hR2] at HN
            clear ho2 HR3
            go_wp2
            go_roundw
            case rel => exact ⟨_, _, i + 1, by omega, rfl, rfl, by go_num, HN⟩
            case measure => simp [intOf]; omega)

    · obtain rfl : i = f.length := by omega
      have hlen : (rtab (f.take f.length)).length = f.length := by rw [rtab_length, List.length_take]; omega
      obtain ⟨p, hp⟩ : ∃ p, (rtab (f.take f.length))[f.length - 1]? = some p := ⟨_, List.getElem?_eq_getElem (by omega)⟩
      obtain ⟨t1, t2, t3⟩ := rtab_tells HG.out.nd f.length (Nat.le_refl _) (f.length - 1) p (by omega) hp
      obtain ⟨TA, tc, htv, q1, q2, htx⟩ := rt_texts HR.out
      obtain ⟨BA, bc, hbv, b1, b2, hbx⟩ := rt_bools HR.out
      rw [hlen] at htv hbv q1 b1
      subst htv
      subst hbv
      obtain ⟨ta, te, _, tcell⟩ := htx _ p hp
      obtain ⟨ba, be, _, bcell⟩ := hbx _ p hp
      subst te
      subst be
      have HB := Lib.hid HR.out.below
      have hc0 := fchk_iff.2 HG.out
      have e1 : ((f.length : Int) - 1).toNat = f.length - 1 := by omega
      obtain ⟨s, m⟩ := p
      simp only at t1 t2 tcell bcell
      obtain ⟨X, hX⟩ : ∃ X, X = str s := ⟨_, rfl⟩
      rw [← hX] at tcell
      rcases m with _ | _
      · have hl : ¬ 300 < (txt f (f.length - 1)).length := of_decide_eq_false t1.symm
        obtain ⟨r1, r2⟩ := wrote_ok hc0 (show (ftxt f).length ≤ 300 by unfold ftxt; omega)
        have HX : Hid (X = str (wtext L f)) := by rw [Hid, r1, hX, t2 rfl]; rfl
        have HY : Hid (werr L f = 0) := r2
        clear t1 t2 t3 hl r1 r2 hX htx hbx hp hc0 HR HG HA hlen
        go_wp2
        go_ret2
        exact ⟨by rw [← HX.out, HY.out]; rfl, HB.out⟩
      · have hl : 300 < (txt f (f.length - 1)).length := of_decide_eq_true t1.symm
        obtain ⟨r1, r2⟩ := wrote_long hc0 (show 300 < (ftxt f).length from hl)
        have HX : Hid (wtext L f = []) := r1
        have HY : Hid (werr L f = 4) := r2
        clear t1 t2 t3 hl r1 r2 hX htx hbx hp hc0 HR HG HA hlen
        go_wp2
        go_ret2
        exact ⟨by rw [HX.out, HY.out]; rfl, HB.out⟩
end Go.Proofs.YtlhhhdgkdbplmaaDoor.Fm
