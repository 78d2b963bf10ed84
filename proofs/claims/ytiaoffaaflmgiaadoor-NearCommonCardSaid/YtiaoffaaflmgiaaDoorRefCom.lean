/- The walk of the document's answer for package near: stilewardref1's first and Common. -/
import Derived.Test.YtiaoffaaflmgiaaDoorNearL
import Derived.Test.YtiaoffaaflmgiaaDoorRefWord
namespace Go.Proofs.YtiaoffaaflmgiaaDoor.Ne
open Go.RowKit Go.IntWalk Go.Proofs.YtiaoffaaflmgiaaDoor.Wd Go.Proofs.YtiaoffaaflmgiaaDoor.Wo

set_option maxRecDepth 100000 in
theorem first_det (A : Option Addr) (c : Nat) (v : List Int) (B : Option Addr) (d : Nat) (z : List Int) (hv : v.length ≤ 1000) (_hz : z.length ≤ 1000) :
    ∃ (A' : Option Addr) (c' : Nat), ((A' = A ∧ c' = c ∧ firstOf v z = v) ∨ (A' = B ∧ c' = d ∧ firstOf v z = z)) ∧
      ∀ w : World, IntsAt w w.heap.size A v → IntsAt w w.heap.size B z →
        Calls Tryd.prog 17 #[.slice A v.length c, .slice B z.length d] w fun e w' => e = .returned (.slice A' (firstOf v z).length c') ∧ ∃ n, w' = w.drewN n := by
  by_cases h : z.length < v.length
  · have hf : firstOf v z = v := by unfold firstOf; rw [if_pos h]
    refine ⟨A, c, .inl ⟨rfl, rfl, hf⟩, fun w hA hB => ?_⟩
    rw [hf]
    clear hA hB hf
    have hi : (z.length : Int) < (v.length : Int) := by omega
    go_enter Tryd.func17, Tryd.ntmps17
    go_wp2
    go_ret
    exact ⟨rfl, 0, rfl⟩
  · have hi : ¬ ((z.length : Int) < (v.length : Int)) := by omega
    by_cases he : v.length = z.length
    · have he1 : ((v.length : Int) == (z.length : Int)) = true := by simp; omega
      cases hl : lss v z
      · have hf : firstOf v z = z := by unfold firstOf; rw [if_neg h, if_neg (by simp [hl])]
        refine ⟨B, d, .inr ⟨rfl, rfl, hf⟩, fun w hA hB => ?_⟩
        have HL := Lib.hid (refLess_any A c v B d z w hA hB (by omega) (by omega))
        rw [hl] at HL
        rw [hf]
        clear hA hB hf hl he h
        go_enter Tryd.func17, Tryd.ntmps17
        go_wp2_with fail
        refine HL.out.mono ?_
        rintro e w1 ⟨he, n, rfl⟩
        obtain rfl := he.out
        clear he HL
        go_wp2
        go_ret
        exact ⟨rfl, n, rfl⟩
      · have hf : firstOf v z = v := by unfold firstOf; rw [if_neg h, if_pos ⟨he, hl⟩]
        refine ⟨A, c, .inl ⟨rfl, rfl, hf⟩, fun w hA hB => ?_⟩
        have HL := Lib.hid (refLess_any A c v B d z w hA hB (by omega) (by omega))
        rw [hl] at HL
        rw [hf]
        clear hA hB hf hl he h
        go_enter Tryd.func17, Tryd.ntmps17
        go_wp2_with fail
        refine HL.out.mono ?_
        rintro e w1 ⟨he, n, rfl⟩
        obtain rfl := he.out
        clear he HL
        go_wp2
        go_ret
        exact ⟨rfl, n, rfl⟩
    · have he1 : ((v.length : Int) == (z.length : Int)) = false := by simp; omega
      have hf : firstOf v z = z := by unfold firstOf; rw [if_neg h, if_neg (fun q => he q.1)]
      refine ⟨B, d, .inr ⟨rfl, rfl, hf⟩, fun w hA hB => ?_⟩
      rw [hf]
      clear hA hB hf he h
      go_enter Tryd.func17, Tryd.ntmps17
      go_wp2
      go_ret
      exact ⟨rfl, 0, rfl⟩

/-! ### rows of words -/
/-- A list that reads as l, none of it in block g. -/
def Off (w : World) (g : Nat) (A : Option Addr) (l : List Int) : Prop := IntsAt w w.heap.size A l ∧ (l ≠ [] → ∀ ad, A = some ad → ad.block ≠ g)
theorem Off.on {w w' : World} {g : Nat} {A : Option Addr} {l : List Int} (h : Off w g A l) (hb : Below w.heap.size w w') : Off w' g A l := ⟨h.1.on hb, h.2⟩
theorem Off.set {w : World} {g : Nat} {A : Option Addr} {l : List Int} (h : Off w g A l) (j : Nat) (u : Value) : Off (w.setCell ⟨g, j, none⟩ u) g A l := by
  refine ⟨⟨fun k x hk => ?_, h.1.2⟩, h.2⟩
  obtain ⟨ad, e, h1, h2⟩ := h.1.1 k x hk
  refine ⟨ad, e, by simpa [World.setCell] using h1, ?_⟩
  have hne : l ≠ [] := by intro e; subst e; simp at hk
  rw [World.cell?_of_block (w := w) (Below.heap_setCell _ _ _ _ (by rw [block_add]; exact h.2 hne ad e))]
  exact h2
theorem Off.of {w : World} {g B : Nat} {A : Option Addr} {l : List Int} (h : IntsAt w B A l) (hB : B ≤ g) (hs : B ≤ w.heap.size) : Off w g A l := by
  refine ⟨h.more hs, fun hne ad e => ?_⟩
  obtain ⟨x, l', rfl⟩ := List.exists_cons_of_ne_nil hne
  obtain ⟨ad', e', h1, _⟩ := h.at_ 0 (by simp)
  rw [e] at e'
  cases e'
  omega
/-- The row of the words behind place p of v. -/
structure Out (w wr : World) (g : Nat) (v z : List Int) (p : Nat) : Prop where
  below : Below w.heap.size w wr
  row : ∃ f : Nat → Value, wr.rowIs g 22 (z.length + 1) f ∧ ∀ q, q ≤ z.length → ∃ A k, f q = .slice A (com (v.drop p) (z.drop q)).length k ∧ IntsAt wr wr.heap.size A (com (v.drop p) (z.drop q))
/-- .. while the next row is written, from its end as far as place c. -/
structure Inn (wr wi : World) (v z : List Int) (i c : Nat) : Prop where
  below : Below wr.heap.size wr wi
  row : ∃ f : Nat → Value, wi.rowIs wr.heap.size 22 (z.length + 1) f ∧ ∀ q, c ≤ q → q ≤ z.length → ∃ A k, f q = .slice A (com (v.drop i) (z.drop q)).length k ∧ Off wi wr.heap.size A (com (v.drop i) (z.drop q))
theorem rowIs_on {w w' : World} {g m B : Nat} {t : TypeId} {f : Nat → Value} (h : w.rowIs g t m f) (hb : Below B w w') (hg : g < B) : w'.rowIs g t m f := h.of_block (hb.block g hg)
theorem out_start {w w1 : World} {v z : List Int} (h : Made w 22 (.slice none 0 0) (z.length + 1) w1) : Out w w1 w.heap.size v z v.length := by
  have r1 := rowIs_of_made h
  unfold Made at h
  refine ⟨by rw [h]; exact (Below.refl _ _).alloc (Nat.le_refl _) _, _, r1, fun q hq => ⟨none, 0, ?_, ?_⟩⟩
  · rw [List.drop_of_length_le (Nat.le_refl _), com_nil]; rfl
  · rw [List.drop_of_length_le (Nat.le_refl _), com_nil]; exact IntsAt.nil _ _ _
theorem out_at {w wr wi : World} {g : Nat} {v z : List Int} {p : Nat} (h : Out w wr g v z p) (hb : Below wr.heap.size wr wi) {q : Nat} (hq : q ≤ z.length) :
    ∃ A k, wi.cell? ⟨g, q, none⟩ = some (.slice A (com (v.drop p) (z.drop q)).length k) ∧ IntsAt wi wr.heap.size A (com (v.drop p) (z.drop q)) := by
  obtain ⟨f, h1, h2⟩ := h.row
  obtain ⟨A, k, h3, h4⟩ := h2 q hq
  refine ⟨A, k, ?_, h4.below hb⟩
  rw [(rowIs_on h1 hb h1.lt).cell (by omega), h3]
theorem inn_start {wr w1 : World} {v z : List Int} {i : Nat} (h : Made wr 22 (.slice none 0 0) (z.length + 1) w1) : Inn wr w1 v z i z.length := by
  have r1 := rowIs_of_made h
  unfold Made at h
  refine ⟨by rw [h]; exact (Below.refl _ _).alloc (Nat.le_refl _) _, _, r1, fun q h1 h2 => ⟨none, 0, ?_, ?_⟩⟩
  · rw [List.drop_of_length_le (show z.length ≤ q by omega), com_nil2]; rfl
  · rw [List.drop_of_length_le (show z.length ≤ q by omega), com_nil2]; exact ⟨IntsAt.nil _ _ _, fun e => absurd rfl e⟩
theorem inn_on {wr wi w2 : World} {v z : List Int} {i c : Nat} (h : Inn wr wi v z i c) (hb : Below wi.heap.size wi w2) : Inn wr w2 v z i c := by
  obtain ⟨f, h1, h2⟩ := h.row
  refine ⟨h.below.trans (hb.mono h.below.size), f, rowIs_on h1 hb h1.lt, fun q k1 k2 => ?_⟩
  obtain ⟨A, k, h3, h4⟩ := h2 q k1 k2
  exact ⟨A, k, h3, h4.on hb⟩
theorem inn_at {wr wi : World} {v z : List Int} {i c : Nat} (h : Inn wr wi v z i c) {q : Nat} (h1 : c ≤ q) (h2 : q ≤ z.length) :
    ∃ A k, wi.cell? ⟨wr.heap.size, q, none⟩ = some (.slice A (com (v.drop i) (z.drop q)).length k) ∧ Off wi wr.heap.size A (com (v.drop i) (z.drop q)) := by
  obtain ⟨f, h3, h4⟩ := h.row
  obtain ⟨A, k, h5, h6⟩ := h4 q h1 h2
  exact ⟨A, k, by rw [h3.cell (by omega), h5], h6⟩
theorem inn_old {wr wi : World} {v z : List Int} {i c : Nat} (h : Inn wr wi v z i c) {q : Nat} (h2 : q ≤ z.length) :
    ∃ u, wi.cell? ⟨wr.heap.size, q, none⟩ = some u ∧ wi.frozen? ⟨wr.heap.size, q, none⟩ = false := by
  obtain ⟨f, h3, h4⟩ := h.row
  exact ⟨_, h3.cell (by omega), h3.frozen q⟩
theorem inn_set {wr wi : World} {v z : List Int} {i c : Nat} (h : Inn wr wi v z i (c + 1)) {A : Option Addr} {k n : Nat} (hn : n = (com (v.drop i) (z.drop c)).length) (ho : Off wi wr.heap.size A (com (v.drop i) (z.drop c))) :
    Inn wr (wi.setCell ⟨wr.heap.size, c, none⟩ (.slice A n k)) v z i c := by
  obtain ⟨f, h1, h2⟩ := h.row
  subst hn
  refine ⟨h.below.setCell (Nat.le_refl _) _, _, h1.set c _, fun q k1 k2 => ?_⟩
  by_cases e : q = c
  · subst e; rw [if_pos rfl]; exact ⟨A, k, rfl, ho.set _ _⟩
  · rw [if_neg e]
    obtain ⟨A', k', h3, h4⟩ := h2 q (by omega) k2
    exact ⟨A', k', h3, h4.set _ _⟩
theorem inn_out {w wr wi : World} {g : Nat} {v z : List Int} {i : Nat} (ho : Out w wr g v z (i + 1)) (h : Inn wr wi v z i 0) : Out w wi wr.heap.size v z i := by
  obtain ⟨f, h1, h2⟩ := h.row
  refine ⟨ho.below.trans (h.below.mono ho.below.size), f, h1, fun q hq => ?_⟩
  obtain ⟨A, k, h3, h4⟩ := h2 q (by omega) hq
  exact ⟨A, k, h3, h4.1⟩
theorem com_hit {v z : List Int} {i c : Nat} (hi : i < v.length) (hc : c < z.length) (he : v[i] = z[c]) : com (v.drop i) (z.drop c) = firstOf (v[i] :: com (v.drop (i + 1)) (z.drop (c + 1))) (firstOf (com (v.drop (i + 1)) (z.drop c)) (com (v.drop i) (z.drop (c + 1)))) := by
  rw [List.drop_eq_getElem_cons hi, List.drop_eq_getElem_cons hc, com_cons, if_pos he]
theorem com_miss {v z : List Int} {i c : Nat} (hi : i < v.length) (hc : c < z.length) (he : ¬ v[i] = z[c]) : com (v.drop i) (z.drop c) = firstOf (com (v.drop (i + 1)) (z.drop c)) (com (v.drop i) (z.drop (c + 1))) := by
  rw [List.drop_eq_getElem_cons hi, List.drop_eq_getElem_cons hc, com_cons, if_neg he]
set_option maxRecDepth 100000 in
set_option maxHeartbeats 2000000 in
theorem refCom_any (A : Option Addr) (c : Nat) (v : List Int) (B : Option Addr) (d : Nat) (z : List Int) (w : World) (hA : IntsAt w w.heap.size A v) (hB : IntsAt w w.heap.size B z) (hv : v.length ≤ 80) (hz : z.length ≤ 80) :
    Calls Tryd.prog 9 #[.slice A v.length c, .slice B z.length d] w fun e w' => Hid (∃ X k, e = .returned (.slice X (com v z).length k) ∧ IntsAt w' w'.heap.size X (com v z)) ∧ Below w.heap.size w w' := by
  have HA := Lib.hid hA
  have HB := Lib.hid hB
  clear hA hB
  go_enter Tryd.func9, Tryd.ntmps9
  go_wp2_with (at_make; refine mk_rows rfl _ _ rfl (z.length + 1) rfl rfl (by omega) ?_)
  intro w1 hm
  have HO := Lib.hid (out_start (v := v) hm)
  clear hm
  go_wp2
  go_loopw [5, 6] (fun s i wr => ∃ (g p : Nat) (x : Int), p ≤ v.length ∧ s = .slice (some ⟨g, 0, none⟩) (z.length + 1) (z.length + 1) ∧ i = .int .i64 x ∧ x = (p : Int) - 1 ∧ Hid (Out w wr g v z p)) (fun _ i _ => (intOf i + 1).toNat)
  case atStart => exact ⟨w.heap.size, v.length, _, by omega, rfl, rfl, rfl, HO⟩
  case round =>
    clear HO
    obtain ⟨g, p, x, hp, rfl, rfl, hx, HO⟩ := hrel
    rcases p with _ | i
    · have hx0 : x < 0 := by omega
      clear hx
      obtain ⟨X, k, hc1, hX⟩ := out_at HO.out (Below.refl _ _) (q := 0) (by omega)
      rw [List.drop_zero, List.drop_zero] at hc1 hX
      have HX := Lib.hid hX
      have HBW := Lib.hid HO.out.below
      have hk3 : (0 : Int) < (z.length : Int) + 1 := by omega
      obtain ⟨C, hC⟩ : ∃ C, C = com v z := ⟨_, rfl⟩
      rw [← hC] at hc1
      have HC := Lib.hid hC
      clear HO hX hC
      go_wp2
      go_ret
      exact ⟨⟨X, k, by rw [← HC.out]; rfl, HX.out⟩, HBW.out⟩
    · obtain rfl : x = (i : Int) := by omega
      clear hx
      have hi : i < v.length := by omega
      go_wp2_with (at_make; refine mk_rows rfl _ _ rfl (z.length + 1) rfl rfl (by omega) ?_)
      intro w3 hm
      have HI := Lib.hid (inn_start (v := v) (i := i) hm)
      clear hm
      go_wp2
      obtain ⟨wn, hwn⟩ : ∃ wn, wn = wr := ⟨_, rfl⟩
      rw [← hwn] at HO HI
      have HWN := Lib.hid hwn
      obtain ⟨N, hN⟩ : ∃ N, N = wr.heap.size := ⟨_, rfl⟩
      have HNN : Hid (N = wn.heap.size) := by unfold Hid; rw [hN, hwn]
      rw [← hN]
      clear hwn hN
      go_loopw [8] (fun s wi => ∃ (q : Nat) (x : Int), q ≤ z.length ∧ s = .int .i64 x ∧ x = (q : Int) - 1 ∧ Hid (Inn wn wi v z i q)) (fun s _ => (intOf s + 1).toNat)
      case atStart => exact ⟨z.length, _, by omega, rfl, rfl, HI⟩
      case round =>
        clear HI
        obtain ⟨q, x, hq, rfl, hx, HI⟩ := hrel
        rcases q with _ | c
        · have hx0 : x < 0 := by omega
          clear hx
          have HO2 := Lib.hid (inn_out HO.out HI.out)
          rw [← HNN.out] at HO2
          clear HO HI
          go_wp2
          go_roundw
          case rel => exact ⟨N, i, _, by omega, rfl, rfl, rfl, HO2⟩
          case measure => first | (simp [intOf]; done) | (simp [intOf]; omega)
        · obtain rfl : x = (c : Int) := by omega
          clear hx
          have hcc : c < z.length := by omega
          obtain ⟨A1, k1, hc1, hx1⟩ := out_at HO.out HI.out.below (q := c) (by omega)
          obtain ⟨A2, k2, hc2, hx2⟩ := inn_at HI.out (q := c + 1) (by omega) (by omega)
          have HX4 : Hid (∀ wi, Below wn.heap.size wn wi → ∃ A k, wi.cell? ⟨g, c + 1, none⟩ = some (.slice A (com (v.drop (i + 1)) (z.drop (c + 1))).length k) ∧ IntsAt wi wn.heap.size A (com (v.drop (i + 1)) (z.drop (c + 1)))) :=
            fun wi hb => out_at HO.out hb (by omega)
          have hBW := HO.out.below.trans (HI.out.below.mono HO.out.below.size)
          obtain ⟨adv, rfl, hadvb, hcv, hs1, hs2⟩ := (HA.out.on hBW).at_ i hi
          obtain ⟨adz, rfl, hadzb, hcz2, _, _⟩ := (HB.out.on hBW).at_ c hcc
          obtain ⟨old, hco, hfo⟩ := inn_old HI.out (q := c) (by omega)
          rw [← HNN.out] at hc2 hco hfo
          have l1 := (com_best (v.drop (i + 1)) (z.drop c)).left.length_le
          have l2 := (com_best (v.drop i) (z.drop (c + 1))).left.length_le
          have l4 := (com_best (v.drop (i + 1)) (z.drop (c + 1))).left.length_le
          simp only [List.length_drop] at l1 l2 l4
          replace l1 : (com (v.drop (i + 1)) (z.drop c)).length ≤ 80 := by omega
          replace l2 : (com (v.drop i) (z.drop (c + 1))).length ≤ 80 := by omega
          replace l4 : (com (v.drop (i + 1)) (z.drop (c + 1))).length ≤ 80 := by omega
          obtain ⟨A3, k3, hcase, hF⟩ := first_det A1 k1 _ A2 k2 _ (show (com (v.drop (i + 1)) (z.drop c)).length ≤ 1000 by omega) (show (com (v.drop i) (z.drop (c + 1))).length ≤ 1000 by omega)
          have hlt := (show N < wr.heap.size by obtain ⟨f, h3, _⟩ := HI.out.row; rw [HNN.out]; exact h3.lt)
          have hof1 : Off wr N A1 (com (v.drop (i + 1)) (z.drop c)) := Off.of hx1 (by rw [HNN.out]; exact Nat.le_refl _) HI.out.below.size
          have hof3 : Off wr N A3 (firstOf (com (v.drop (i + 1)) (z.drop c)) (com (v.drop i) (z.drop (c + 1)))) := by
            rcases hcase with ⟨e1, e2, e3⟩ | ⟨e1, e2, e3⟩
            · rw [e1, e3]; exact hof1
            · rw [e1, e3, HNN.out]; exact hx2
          have HF1 := Lib.hid (fun n => hF (wr.drewN n) ((hx1.more HI.out.below.size).on (below_drewN (Below.refl _ _) n)) (hx2.1.on (below_drewN (Below.refl _ _) n)))
          have HF2 : Hid (∀ n, Calls Tryd.prog 17 #[.slice A1 (com (v.drop (i + 1)) (z.drop c)).length k1, .slice A2 (com (v.drop i) (z.drop (c + 1))).length k2] (wr.drewN n) fun e w' => e = .returned (.slice A3 (firstOf (com (v.drop (i + 1)) (z.drop c)) (com (v.drop i) (z.drop (c + 1)))).length k3) ∧ ∃ m, w' = wr.drewN m) := fun n =>
            (HF1.out n).mono fun e w' ⟨h1, m, h2⟩ => ⟨h1, _, h2.trans (World.drewN_drewN _ _ _)⟩
          have HOF := Lib.hid hof3
          have lF : (firstOf (com (v.drop (i + 1)) (z.drop c)) (com (v.drop i) (z.drop (c + 1)))).length ≤ 80 := by
            rcases hcase with ⟨_, _, e3⟩ | ⟨_, _, e3⟩ <;> rw [e3] <;> assumption
          clear HF1 hof3 hof1 hcase hF hx1 hx2 hBW
          have hw2 : IntKind.i64.wrap ((c : Int) + 1) = (c : Int) + 1 := IntWalk.i64_in _ ⟨by omega, by omega⟩
          have hk4 : (0 : Int) ≤ (c : Int) + 1 := by omega
          have hk5 : (c : Int) + 1 < (z.length : Int) + 1 := by omega
          have hk6 : (c : Int) < (z.length : Int) + 1 := by omega
          by_cases he : v[i] = z[c]
          · have HE := Lib.hid (com_hit hi hcc he)
            have he1 : (v[i] == z[c]) = true := by rw [he]; simp
            clear he
            have HL4 : Hid (com (v.drop (i + 1)) (z.drop (c + 1)) = com (v.drop (i + 1)) (z.drop (c + 1))) := rfl
            generalize hL1 : com (v.drop (i + 1)) (z.drop c) = L1 at *
            generalize hL2 : com (v.drop i) (z.drop (c + 1)) = L2 at *
            clear hL1 hL2 HL4
            generalize firstOf L1 L2 = F at *
            generalize com (v.drop (i + 1)) (z.drop (c + 1)) = L4 at *
            generalize v[i] = x1 at *
            generalize z[c] = x2 at *
            go_wp2_with fail
            go_quiet ((go_at_call 17; with_reducible exact HF2.out _))
            have Bq0 : Hid (Below wr.heap.size wr (wr.drewN nq)) := below_drewN (Below.refl _ _) nq
            have hcvq : (wr.drewN nq).cell? (adv.add i) = some (.int .i64 x1) := hcv
            have hczq : (wr.drewN nq).cell? (adz.add c) = some (.int .i64 x2) := hcz2
            have hltq : N < (wr.drewN nq).heap.size := hlt
            clear hcv hcz2 hc1 hc2 hco hfo hlt HF2
            generalize wr.drewN nq = wp at *
            go_wp2_with fail
            go_quiet (fail)
            have Bq : Hid (Below wr.heap.size wr (wp.drewN nq)) := below_drewN Bq0.out nq
            have hcvq : (wp.drewN nq).cell? (adv.add i) = some (.int .i64 x1) := hcvq
            have hltq : N < (wp.drewN nq).heap.size := hltq
            clear Bq0 hczq
            generalize wp.drewN nq = wq at *
            have HN0 := Lib.hid (nums_nil wq)
            go_wp2_with (at_builtin; refine app_one rfl _ _ rfl rfl HN0.out rfl ?c1 ?_)
            case c1 => simp
            intro v5 w5 hn5
            have HN5 := Lib.hid hn5
            have hb5 := (HI.out.below.trans (Bq.out.mono HI.out.below.size)).trans (hn5.2.1.mono (Nat.le_trans HI.out.below.size Bq.out.size))
            obtain ⟨A4, k4, hc4, hx4⟩ := HX4.out w5 hb5
            have HX := Lib.hid (hx4.more hb5.size)
            clear hn5 HN0 hx4 hb5 HX4 hcvq
            go_wp2_with (at_builtin; refine app_ints rfl _ _ rfl rfl HN5.out rfl HX.out ?c2 ?_)
            case c2 => simp; omega
            intro v6 w6 hn6
            obtain ⟨LW, hLW⟩ : ∃ LW, LW = x1 :: L4 := ⟨_, rfl⟩
            have hn6' : Nums wq.heap.size wq LW v6 w6 := by rw [hLW]; simpa using hn6
            clear hn6
            have hsm : ∀ y ∈ LW, Small y := by
              rw [hLW]
              intro y hy
              rcases List.mem_cons.1 hy with e | hy
              · rw [e]; exact ⟨hs1, hs2⟩
              · exact HX.out.2 y hy
            have hlw : LW.length ≤ 81 := by rw [hLW]; simp; omega
            rw [← hLW] at HE
            have B6 := Lib.hid (Bq.out.trans (hn6'.2.1.mono Bq.out.size))
            obtain ⟨A6, k6, hv6, hx6⟩ := nums_at hn6'
            have hof6 : Off w6 N A6 LW := ⟨⟨hx6, hsm⟩, fun _ ad e => by
              have := (hn6'.1.lt ad.block (by rw [hv6, e]; rfl)).1
              omega⟩
            subst hv6
            have hof3 := HOF.out.on B6.out
            obtain ⟨A7, k7, hcase, hF⟩ := first_det A6 k6 LW A3 k3 F (by omega) (by omega)
            have HF3 := Lib.hid (hF w6 hof6.1 hof3.1)
            have hof7 : Off w6 N A7 (firstOf LW F) := by
              rcases hcase with ⟨e1, e2, e3⟩ | ⟨e1, e2, e3⟩
              · rw [e1, e3]; exact hof6
              · rw [e1, e3]; exact hof3
            have hI6 := inn_on HI.out B6.out
            have HN : Hid (∀ n, Inn wn ((w6.drewN n).setCell ⟨N, c, none⟩ (.slice A7 (firstOf LW F).length k7)) v z i c) := fun n => by
              have ho := hof7.on (below_drewN (Below.refl _ _) n)
              rw [← HE.out, HNN.out] at ho
              rw [HNN.out]
              exact inn_set (inn_on hI6 (below_drewN (Below.refl _ _) n)) (by rw [HE.out]) ho
            obtain ⟨old2, hco, hfo⟩ := inn_old hI6 (q := c) (by omega)
            rw [← HNN.out] at hco hfo
            have hco2 : ∀ n, (w6.drewN n).cell? ⟨N, c, none⟩ = some old2 := fun n => hco
            have hfo2 : ∀ n, (w6.drewN n).frozen? ⟨N, c, none⟩ = false := fun n => hfo
            clear hof6 hof3 hof7 hcase hF hI6 hsm hx6 hn6' HE HOF HX hc4 hltq hco hfo hLW
            generalize firstOf LW F = H at *
            go_wp2_with fail
            refine HF3.out.mono ?_
            rintro e w7 ⟨rfl, n, rfl⟩
            have hco := hco2 n
            have hfo := hfo2 n
            have HNn := Lib.hid (HN.out n)
            clear HF3 hco2 hfo2 HN
            generalize w6.drewN n = w7 at *
            go_wp2
            go_roundw
            case rel => exact ⟨c, _, by omega, rfl, rfl, HNn⟩
            case measure => first | (simp [intOf]; done) | (simp [intOf]; omega)
          · have HE := Lib.hid (com_miss hi hcc he)
            have he1 : (v[i] == z[c]) = false := by simpa using he
            have HN : Hid (∀ n, Inn wn ((wr.drewN n).setCell ⟨N, c, none⟩ (.slice A3 (firstOf (com (v.drop (i + 1)) (z.drop c)) (com (v.drop i) (z.drop (c + 1)))).length k3)) v z i c) := fun n => by
              have ho := HOF.out.on (below_drewN (Below.refl _ _) n)
              rw [← HE.out, HNN.out] at ho
              rw [HNN.out]
              exact inn_set (inn_on HI.out (below_drewN (Below.refl _ _) n)) (by rw [HE.out]) ho
            clear he HE HX4 HOF l4 HI
            generalize com (v.drop (i + 1)) (z.drop c) = L1 at *
            generalize com (v.drop i) (z.drop (c + 1)) = L2 at *
            generalize firstOf L1 L2 = F at *
            generalize v[i] = x1 at *
            generalize z[c] = x2 at *
            go_wp2_with fail
            go_quiet ((go_at_call 17; with_reducible exact HF2.out _))
            go_wp2_with fail
            go_quiet (fail)
            go_wp2
            go_roundw
            case rel => exact ⟨c, _, by omega, rfl, rfl, HN.out _⟩
            case measure => first | (simp [intOf]; done) | (simp [intOf]; omega)
end Go.Proofs.YtiaoffaaflmgiaaDoor.Ne
