/- The walk of the document's answer for package near: stilewardref1's Distance. -/
import Derived.Test.YtiaoffaaflmgiaaDoorNearL
import Derived.Test.YtiaoffaaflmgiaaDoorRefWord
import Derived.StillTailTactics
import Derived.Deep.RegionWith
namespace Go.Proofs.YtiaoffaaflmgiaaDoor.Ne
open Go.RowKit Go.IntWalk Go.Proofs.YtiaoffaaflmgiaaDoor.Wd Go.Proofs.YtiaoffaaflmgiaaDoor.Wo

theorem least_any (a b : Int) (w : World) : Calls Tryd.prog 13 #[.int .i64 a, .int .i64 b] w fun e w' => e = .returned (.int .i64 (min a b)) ∧ w' = w := by
  by_cases h : a < b
  · have HR : Hid (min a b = a) := Int.min_eq_left (by omega)
    go_enter Tryd.func13, Tryd.ntmps13
    go_wp2
    go_ret
    exact ⟨by rw [HR.out]; rfl, rfl⟩
  · have HR : Hid (min a b = b) := Int.min_eq_right (by omega)
    go_enter Tryd.func13, Tryd.ntmps13
    go_wp2
    go_ret
    exact ⟨by rw [HR.out]; rfl, rfl⟩

/-! ### a table that is appended row by row -/
abbrev rowV (m g : Nat) : Value := .slice (some ⟨g, 0, none⟩) m m
/-- The rows appended so far. -/
structure Grid (w wr : World) (gs : List Nat) (m : Nat) (x : Value) : Prop where
  own : wr.ownsRow w.heap.size 22 1 x gs.length (gs.map (rowV m))
  below : Below w.heap.size w wr
  rows : ∀ g ∈ gs, w.heap.size ≤ g ∧ wr.rowIs g 3 m (fun _ => .int .i64 0)
  up : gs.Pairwise (· < ·)
theorem grid_start (w : World) (m : Nat) : Grid w w [] m (.slice none 0 0) :=
  ⟨World.ownsRow_nil _ _ _ _, Below.refl _ _, fun g hg => by simp at hg, List.Pairwise.nil⟩
/-- The outer row's block is no row of ints. -/
theorem apart_of {w : World} {base n : Nat} {x : Value} {xs : List Value} (h : w.ownsRow base 22 1 x n xs) {g m : Nat} {f : Nat → Value} (hg : w.rowIs g 3 m f) : some g ≠ x.ownBlock := by
  obtain ⟨c, h1, _, _⟩ := hg
  rcases h.2 with ⟨e, _⟩ | ⟨b, cap, cur, e, _, hb, _⟩
  · subst e; simp [Value.ownBlock]
  · subst e
    simp only [Value.ownBlock, ne_eq, Option.some.injEq]
    intro e
    subst e
    rw [h1] at hb
    simp at hb
theorem the_val (w : World) (u : Value) (t : TypeId) : ∀ (j : Nat) (y : Value), [u][j]? = some y → (w.alloc (.cells #[u] t)).cell? ((⟨w.heap.size, 0, none⟩ : Addr).add j) = some y := by
  intro j y hj
  rcases j with _ | j
  · simp at hj; subst hj; simp [Addr.add]
  · simp at hj
/-- 't = append(t, make([]int, m))'. -/
theorem app_row {w0 w w1 : World} {t : TypeId} {m : Nat} {ops : Array Oper} {rest : List Oper} {o : Oper} {a : Act} {Q : Exit → Act → World → Prop} (hgd : o.guard = none) (s x : Operand)
    (ho : o.op = .call { callee := .builtin .append, args := #[s, x], argTypes := #[36, 36] })
    {gs : List Nat} {v : Value} (hs : a.eval s = v) (ht : Grid w0 w gs m v) (hm : Made w 3 (.int .i64 0) m w1)
    (hx : a.eval x = .slice (some ⟨w1.heap.size, 0, none⟩) 1 1) (hb : gs.length < 1099511627776)
    (h : ∀ v' w', Grid w0 w' (gs ++ [w.heap.size]) m v' → wpList Tryd.prog ops Q rest (a.put o.dst v') w') : wpList Tryd.prog ops Q (o :: rest) a (w1.alloc (.cells #[rowV m w.heap.size] t)) := by
  obtain ⟨i0, hi, hz0, hz1, hz2⟩ := info_parts infoR
  have r1 := rowIs_of_made hm
  have hw1 : w1 = w.alloc (.cells (madeCells #[.int .i64 0] m) 3) := hm
  have hs1 : w.heap.size < w1.heap.size := by rw [hw1]; simp
  have o1 : w1.ownsRow w0.heap.size 22 1 v gs.length (gs.map (rowV m)) := by rw [hw1]; exact ht.own.alloc _
  have b1 : Below w0.heap.size w0 w1 := by rw [hw1]; exact ht.below.alloc ht.below.size _
  have q1 : ∀ g ∈ gs, w1.rowIs g 3 m (fun _ => .int .i64 0) := fun g hg => by rw [hw1]; exact (ht.rows g hg).2.alloc _
  have lt1 : ∀ g ∈ gs, g < w.heap.size := fun g hg => (ht.rows g hg).2.lt
  refine wpList_append_own _ hgd s x 36 ho w0.heap.size 22 i0 (.slice none 0 0) 1 24 Tryd.underlying36 hi hz0 hz1 hz2 rfl (by decide) v gs.length (gs.map (rowV m)) hs (o1.alloc _) ⟨w1.heap.size, 0, none⟩ 1 1 [rowV m w.heap.size] hx rfl (the_val w1 _ t) (fun u hu => by simp at hu; subst hu; rfl) (by unfold maxLen; omega) (by omega) (by have := b1.size; simp; omega) ?_
  intro v' w' hown hg _
  have sz : (w1.alloc (.cells #[rowV m w.heap.size] t)).heap.size = w1.heap.size + 1 := by simp
  have o2 : (w1.alloc (.cells #[rowV m w.heap.size] t)).ownsRow w0.heap.size 22 1 v gs.length (gs.map (rowV m)) := o1.alloc _
  have keep : ∀ g, (w1.alloc (.cells #[rowV m w.heap.size] t)).rowIs g 3 m (fun _ => .int .i64 0) → w'.rowIs g 3 m (fun _ => .int .i64 0) := fun g hgr =>
    hgr.of_block (hg.block g hgr.lt (apart_of o2 hgr))
  refine h v' w' ⟨by simpa using hown, (b1.alloc b1.size _).grown hg (by rw [sz]; have := b1.size; omega) (fun k hk => (o2.lt k hk).1), fun g hgm => ?_, ?_⟩
  · rcases List.mem_append.1 hgm with hgm | hgm
    · exact ⟨(ht.rows g hgm).1, keep g ((q1 g hgm).alloc _)⟩
    · simp at hgm; subst hgm
      exact ⟨ht.below.size, keep _ (r1.alloc _)⟩
  · rw [List.pairwise_append]
    exact ⟨ht.up, by simp, fun g1 h1 g2 h2 => by simp at h2; subst h2; exact lt1 g1 h1⟩

/-! ### the table of the distances of all ends -/
structure Grd (w wi : World) (g0 : Nat) (G : Nat → Nat) (v z : List Int) (p c : Nat) : Prop where
  below : Below w.heap.size w wi
  top : ∀ k, k ≤ v.length → wi.cell? ⟨g0, k, none⟩ = some (.slice (some ⟨G k, 0, none⟩) (z.length + 1) (z.length + 1))
  new : ∀ k, k ≤ v.length → w.heap.size ≤ G k
  apart : ∀ k, k ≤ v.length → G k ≠ g0 ∧ ∀ l, l ≤ v.length → k ≠ l → G k ≠ G l
  rows : ∀ k, k ≤ v.length → ∃ f : Nat → Value, wi.rowIs (G k) 3 (z.length + 1) f ∧ ∀ q, q ≤ z.length → (p ≤ k ∨ (k + 1 = p ∧ c ≤ q)) → f q = .int .i64 ((lev (v.drop k) (z.drop q) : Nat) : Int)
theorem grd_start {w wr : World} {gs : List Nat} {v z : List Int} {x : Value} (h : Grid w wr gs (z.length + 1) x) (hl : gs.length = v.length + 1) :
    ∃ (g0 cap : Nat) (G : Nat → Nat), x = .slice (some ⟨g0, 0, none⟩) (v.length + 1) cap ∧ Grd w wr g0 G v z (v.length + 1) (z.length + 1) := by
  have hown := h.own
  rcases h.own.2 with ⟨_, h0⟩ | ⟨g0, cap, cur, e, hB, hh, h3, h4, h5, h6⟩
  · omega
  · subst e
    rw [hl] at hown
    have hG : ∀ k, k ≤ v.length → gs.getD k 0 ∈ gs := fun k hk => by
      rw [List.getD_eq_getElem?_getD, List.getElem?_eq_getElem (by omega)]
      exact List.getElem_mem (by omega)
    refine ⟨g0, cap, fun k => gs.getD k 0, by rw [hl], h.below, fun k hk => ?_, fun k hk => (h.rows _ (hG k hk)).1, fun k hk => ⟨?_, fun l hl2 hkl => ?_⟩, fun k hk => ⟨_, (h.rows _ (hG k hk)).2, fun q hq hpc => ?_⟩⟩
    · have hcell := hown.cells (g := g0) rfl k (rowV (z.length + 1) (gs.getD k 0)) ?_
      · rw [Addr.add_lit, Nat.zero_add] at hcell
        exact hcell
      rw [List.getElem?_map, List.getElem?_eq_getElem (by omega), List.getD_eq_getElem?_getD, List.getElem?_eq_getElem (by omega)]
      rfl
    · intro e
      have := apart_of h.own (h.rows _ (hG k hk)).2
      rw [e] at this
      simp [Value.ownBlock] at this
    · have hp := List.pairwise_iff_getElem.1 h.up
      simp only [List.getD_eq_getElem?_getD]
      rw [List.getElem?_eq_getElem (by omega), List.getElem?_eq_getElem (by omega)]
      simp only [Option.getD_some]
      rcases Nat.lt_or_gt_of_ne hkl with h7 | h7
      · have := hp k l (by omega) (by omega) h7; omega
      · have := hp l k (by omega) (by omega) h7; omega
    · omega
theorem grd_drewN {w wi : World} {g0 : Nat} {G : Nat → Nat} {v z : List Int} {p c : Nat} (h : Grd w wi g0 G v z p c) (n : Nat) : Grd w (wi.drewN n) g0 G v z p c :=
  ⟨below_drewN h.below n, h.top, h.new, h.apart, h.rows⟩
theorem grd_set {w wi : World} {g0 : Nat} {G : Nat → Nat} {v z : List Int} {i c : Nat} (h : Grd w wi g0 G v z (i + 1) (c + 1)) (hi : i ≤ v.length) (x : Int) (hx : x = ((lev (v.drop i) (z.drop c) : Nat) : Int)) :
    Grd w (wi.setCell ⟨G i, c, none⟩ (.int .i64 x)) g0 G v z (i + 1) c := by
  refine ⟨h.below.setCell (h.new i hi) _, fun k hk => ?_, h.new, h.apart, fun k hk => ?_⟩
  · rw [World.cell?_of_block (w := wi) (Below.heap_setCell _ _ _ _ (fun e => (h.apart i hi).1 e.symm))]
    exact h.top k hk
  · obtain ⟨f, h5, h6⟩ := h.rows k hk
    by_cases e : k = i
    · subst e
      refine ⟨_, h5.set c _, fun q hq hpc => ?_⟩
      by_cases e2 : q = c
      · rw [if_pos e2, e2, hx]
      · rw [if_neg e2]; exact h6 q hq (by omega)
    · exact ⟨f, h5.setOther ((h.apart k hk).2 i hi e) _, fun q hq hpc => h6 q hq (by omega)⟩
theorem grd_row {w wi : World} {g0 : Nat} {G : Nat → Nat} {v z : List Int} {i : Nat} (h : Grd w wi g0 G v z (i + 1) 0) : Grd w wi g0 G v z i (z.length + 1) :=
  ⟨h.below, h.top, h.new, h.apart, fun k hk => by
    obtain ⟨f, h5, h6⟩ := h.rows k hk
    exact ⟨f, h5, fun q hq hpc => h6 q hq (by omega)⟩⟩
theorem grd_at {w wi : World} {g0 : Nat} {G : Nat → Nat} {v z : List Int} {p c : Nat} (h : Grd w wi g0 G v z p c) {k q : Nat} (hk : k ≤ v.length) (hq : q ≤ z.length) (hpc : p ≤ k ∨ (k + 1 = p ∧ c ≤ q)) :
    wi.cell? ⟨G k, q, none⟩ = some (.int .i64 ((lev (v.drop k) (z.drop q) : Nat) : Int)) := by
  obtain ⟨f, h5, h6⟩ := h.rows k hk
  rw [h5.cell (by omega), h6 q hq hpc]
theorem grd_old {w wi : World} {g0 : Nat} {G : Nat → Nat} {v z : List Int} {p c : Nat} (h : Grd w wi g0 G v z p c) {k q : Nat} (hk : k ≤ v.length) (hq : q ≤ z.length) :
    ∃ u, wi.cell? ⟨G k, q, none⟩ = some u ∧ wi.frozen? ⟨G k, q, none⟩ = false := by
  obtain ⟨f, h5, h6⟩ := h.rows k hk
  exact ⟨_, h5.cell (by omega), h5.frozen q⟩
theorem lev_drop_cons {v z : List Int} {i c : Nat} (hi : i < v.length) (hc : c < z.length) : lev (v.drop i) (z.drop c) = min (min (lev (v.drop (i + 1)) (z.drop c)) (lev (v.drop i) (z.drop (c + 1))) + 1) (lev (v.drop (i + 1)) (z.drop (c + 1)) + neq v[i] z[c]) := by
  rw [List.drop_eq_getElem_cons hi, List.drop_eq_getElem_cons hc, lev_cons]
  omega
set_option maxRecDepth 100000 in
set_option maxHeartbeats 2000000 in
theorem refDist_any (A : Option Addr) (c : Nat) (v : List Int) (B : Option Addr) (d : Nat) (z : List Int) (w : World) (hA : IntsAt w w.heap.size A v) (hB : IntsAt w w.heap.size B z) (hv : v.length ≤ 80) (hz : z.length ≤ 80) :
    Calls Tryd.prog 6 #[.slice A v.length c, .slice B z.length d] w fun e w' => Hid (e = .returned (.int .i64 ((lev v z : Nat) : Int))) ∧ Below w.heap.size w w' := by
  have HA := Lib.hid hA
  have HB := Lib.hid hB
  clear hA hB
  go_enter Tryd.func6, Tryd.ntmps6
  go_wp2
  go_loopw [5, 6] (fun s i wr => ∃ (k : Nat), k ≤ v.length + 1 ∧ i = .int .i64 k ∧ Hid (∃ gs, gs.length = k ∧ Grid w wr gs (z.length + 1) s)) (fun _ i _ => v.length + 1 - (intOf i).toNat)
  case atStart => exact ⟨0, by omega, rfl, [], rfl, grid_start w _⟩
  case round =>
    obtain ⟨k, hk, rfl, HG⟩ := hrel
    obtain ⟨gs, hgs, hg⟩ := HG.out
    have HG2 := Lib.hid hg
    have HK := Lib.hid hgs
    clear HG hgs hg
    by_cases hlt : k < v.length + 1
    · have hle : (k : Int) ≤ (v.length : Int) := by omega
      go_wp2_with (at_make; refine mk_row rfl _ _ rfl (z.length + 1) rfl rfl (by omega) ?_)
      intro w1 hm
      have HM := Lib.hid hm
      clear hm
      have hc : gs.length < 1099511627776 := by have := HK.out; omega
      go_wp2_with (at_builtin; refine app_row rfl _ _ rfl rfl HG2.out HM.out rfl ?c1 ?_)
      case c1 => exact hc
      intro v' w2 hg
      have HN : Hid (∃ gs, gs.length = k + 1 ∧ Grid w w2 gs (z.length + 1) v') := ⟨_, by rw [List.length_append, HK.out]; rfl, hg⟩
      clear hg HM HG2
      go_wp2
      go_roundw
      case rel => exact ⟨k + 1, by omega, by go_num, HN⟩
      case measure => simp [intOf]; omega
    · obtain rfl : k = v.length + 1 := by omega
      obtain ⟨g0, cap, G, hs, hg⟩ := grd_start HG2.out HK.out
      subst hs
      have HG := Lib.hid hg
      clear hg HG2 HK
      have hle : ¬ ((v.length : Int) + 1 ≤ (v.length : Int)) := by omega
      go_wp2
      go_loopw [7] (fun s wr => ∃ (p : Nat) (x : Int), p ≤ v.length + 1 ∧ s = .int .i64 x ∧ x = (p : Int) - 1 ∧ Hid (Grd w wr g0 G v z p (z.length + 1))) (fun s _ => (intOf s + 1).toNat)
      case atStart => exact ⟨v.length + 1, _, by omega, rfl, by omega, HG⟩
      case round =>
        clear HG
        obtain ⟨p, x, hp, rfl, hx, HG⟩ := hrel
        rcases p with _ | i
        · have hx0 : x < 0 := by omega
          clear hx
          have ht := HG.out.top 0 (by omega)
          have hr := grd_at HG.out (k := 0) (q := 0) (by omega) (by omega) (by omega)
          rw [List.drop_zero, List.drop_zero] at hr
          have HX := Lib.hid HG.out.below
          obtain ⟨X, hX⟩ : ∃ X, X = lev v z := ⟨_, rfl⟩
          rw [← hX] at hr
          have HE := Lib.hid hX
          clear HG hX
          have hk3 : (0 : Int) < (z.length : Int) + 1 := by omega
          have hk4 : (0 : Int) < (v.length : Int) + 1 := by omega
          go_wp2
          go_ret
          exact ⟨by rw [← HE.out]; rfl, HX.out⟩
        · obtain rfl : x = (i : Int) := by omega
          clear hx
          have hi : i ≤ v.length := by omega
          go_wp2
          go_loopw [8] (fun s wi => ∃ (q : Nat) (x : Int), q ≤ z.length + 1 ∧ s = .int .i64 x ∧ x = (q : Int) - 1 ∧ Hid (Grd w wi g0 G v z (i + 1) q)) (fun s _ => (intOf s + 1).toNat)
          case atStart => exact ⟨z.length + 1, _, by omega, rfl, by omega, HG⟩
          case round =>
            clear HG
            obtain ⟨q, x, hq, rfl, hx, HG⟩ := hrel
            rcases q with _ | c
            · have hx0 : x < 0 := by omega
              clear hx
              have HN := Lib.hid (grd_row HG.out)
              clear HG
              go_wp2
              go_roundw
              case rel => exact ⟨i, _, by omega, rfl, rfl, HN⟩
              case measure => first | (simp [intOf]; done) | (simp [intOf]; omega)
            · obtain rfl : x = (c : Int) := by omega
              clear hx
              have hc : c ≤ z.length := by omega
              have ht1 := HG.out.top i hi
              obtain ⟨old, hc1, hf1⟩ := grd_old HG.out hi hc
              have hi1 : (i : Int) < (v.length : Int) + 1 := by omega
              have hi2 : (c : Int) < (z.length : Int) + 1 := by omega
              have HN := Lib.hid (fun n => grd_set (grd_drewN HG.out n) hi)
              by_cases hiv : i = v.length
              · have hv0 : lev (v.drop i) (z.drop c) = z.length - c := by
                  rw [List.drop_of_length_le (by omega), lev_nil, List.length_drop]
                have he1 : ((i : Int) == (v.length : Int)) = true := by simp; omega
                have HN := Lib.hid (HN.out 0 ((z.length : Int) - (c : Int)) (by rw [hv0]; omega))
                clear hv0 HG hiv
                generalize G i = g1 at *
                go_wp2
                go_roundw
                case rel => exact ⟨c, _, by omega, rfl, rfl, HN⟩
                case measure => first | (simp [intOf]; done) | (simp [intOf]; omega)
              · have he1 : ((i : Int) == (v.length : Int)) = false := by simp; omega
                by_cases hcz : c = z.length
                · have hv0 : lev (v.drop i) (z.drop c) = v.length - i := by
                    rw [List.drop_of_length_le (show z.length ≤ c by omega), lev_nil2, List.length_drop]
                  have he2 : ((c : Int) == (z.length : Int)) = true := by simp; omega
                  have HN := Lib.hid (HN.out 0 ((v.length : Int) - (i : Int)) (by rw [hv0]; omega))
                  clear hv0 HG hiv hcz
                  generalize G i = g1 at *
                  go_wp2
                  go_roundw
                  case rel => exact ⟨c, _, by omega, rfl, rfl, HN⟩
                  case measure => first | (simp [intOf]; done) | (simp [intOf]; omega)
                · have he2 : ((c : Int) == (z.length : Int)) = false := by simp; omega
                  have hil : i < v.length := by omega
                  have hcl : c < z.length := by omega
                  have ht2 := HG.out.top (i + 1) (by omega)
                  have hr1 := grd_at HG.out (k := i + 1) (q := c) (by omega) (by omega) (by omega)
                  have hr2 := grd_at HG.out (k := i) (q := c + 1) (by omega) (by omega) (by omega)
                  have hr3 := grd_at HG.out (k := i + 1) (q := c + 1) (by omega) (by omega) (by omega)
                  obtain ⟨adv, rfl, hadvb, hcv, _, _⟩ := (HA.out.on HG.out.below).at_ i hil
                  obtain ⟨adz, rfl, hadzb, hcz2, _, _⟩ := (HB.out.on HG.out.below).at_ c hcl
                  have HV := Lib.hid (lev_drop_cons hil hcl)
                  have b0 := lev_max (v.drop i) (z.drop c)
                  have b1 := lev_max (v.drop (i + 1)) (z.drop c)
                  have b2 := lev_max (v.drop i) (z.drop (c + 1))
                  have b3 := lev_max (v.drop (i + 1)) (z.drop (c + 1))
                  simp only [List.length_drop] at b0 b1 b2 b3
                  replace b0 : lev (v.drop i) (z.drop c) ≤ 80 := by omega
                  replace b1 : lev (v.drop (i + 1)) (z.drop c) ≤ 80 := by omega
                  replace b2 : lev (v.drop i) (z.drop (c + 1)) ≤ 80 := by omega
                  replace b3 : lev (v.drop (i + 1)) (z.drop (c + 1)) ≤ 80 := by omega
                  have HN := Lib.hid (fun n => HN.out n _ rfl)
                  have hw1 : IntKind.i64.wrap ((i : Int) + 1) = (i : Int) + 1 := IntWalk.i64_in _ ⟨by omega, by omega⟩
                  have hw2 : IntKind.i64.wrap ((c : Int) + 1) = (c : Int) + 1 := IntWalk.i64_in _ ⟨by omega, by omega⟩
                  have hk1 : (0 : Int) ≤ (i : Int) + 1 := by omega
                  have hk2 : (i : Int) + 1 < (v.length : Int) + 1 := by omega
                  have hk4 : (0 : Int) ≤ (c : Int) + 1 := by omega
                  have hk5 : (c : Int) + 1 < (z.length : Int) + 1 := by omega
                  clear HG hiv hcz
                  generalize lev (v.drop i) (z.drop c) = V at *
                  generalize lev (v.drop (i + 1)) (z.drop c) = X at *
                  generalize lev (v.drop i) (z.drop (c + 1)) = Y at *
                  generalize lev (v.drop (i + 1)) (z.drop (c + 1)) = Z at *
                  obtain ⟨M, hM⟩ : ∃ M : Nat, M = min X Y := ⟨_, rfl⟩
                  have HL1 : Hid (∀ W, Calls Tryd.prog 13 #[.int .i64 (X : Int), .int .i64 (Y : Int)] W fun e w' => e = .returned (.int .i64 (M : Int)) ∧ w' = W) := fun W => by
                    have h := least_any (X : Int) (Y : Int) W
                    rw [show min (X : Int) (Y : Int) = (M : Int) by omega] at h
                    exact h
                  have HM := Lib.hid hM
                  have bM : M ≤ 80 := by omega
                  clear hM
                  have hw3 : IntKind.i64.wrap ((M : Int) + 1) = (M : Int) + 1 := IntWalk.i64_in _ ⟨by omega, by omega⟩
                  by_cases he : v[i] = z[c]
                  · have he1 : (v[i] != z[c]) = false := by rw [he]; simp
                    have HL2 : Hid (∀ W, Calls Tryd.prog 13 #[.int .i64 ((M : Int) + 1), .int .i64 (Z : Int)] W fun e w' => e = .returned (.int .i64 (V : Int)) ∧ w' = W) := fun W => by
                      have h := least_any ((M : Int) + 1) (Z : Int) W
                      have h1 := HV.out
                      rw [he, neq_self, ← HM.out] at h1
                      rw [show min ((M : Int) + 1) (Z : Int) = (V : Int) by omega] at h
                      exact h
                    clear he HV
                    generalize v[i] = x1 at *
                    generalize z[c] = x2 at *
                    generalize G i = g1 at *
                    generalize G (i + 1) = g2 at *
                    go_wp2_with fail
                    go_quiet ((go_at_call 13; with_reducible exact Calls.quiet_of_same (HL1.out _)))
                    go_wp2_with fail
                    go_quiet (fail)
                    go_wp2_with fail
                    go_region_with ((go_at_call 13; refine (HL2.out _).mono ?_; rintro e w5 ⟨rfl, rfl⟩))
                    all_goals go_wp2
                    all_goals go_roundw
                    all_goals first | exact ⟨c, _, by omega, rfl, rfl, HN.out _⟩ | (simp [intOf]; done) | (simp [intOf]; omega)
                  · have he1 : (v[i] != z[c]) = true := by simpa using he
                    have HL2 : Hid (∀ W, Calls Tryd.prog 13 #[.int .i64 ((M : Int) + 1), .int .i64 ((Z : Int) + 1)] W fun e w' => e = .returned (.int .i64 (V : Int)) ∧ w' = W) := fun W => by
                      have h := least_any ((M : Int) + 1) ((Z : Int) + 1) W
                      have h1 := HV.out
                      unfold neq at h1
                      rw [if_neg he, ← HM.out] at h1
                      rw [show min ((M : Int) + 1) ((Z : Int) + 1) = (V : Int) by omega] at h
                      exact h
                    clear he HV
                    generalize v[i] = x1 at *
                    generalize z[c] = x2 at *
                    generalize G i = g1 at *
                    generalize G (i + 1) = g2 at *
                    go_wp2_with fail
                    go_quiet ((go_at_call 13; with_reducible exact Calls.quiet_of_same (HL1.out _)))
                    go_wp2_with fail
                    go_quiet (fail)
                    go_wp2_with fail
                    go_region_with ((go_at_call 13; refine (HL2.out _).mono ?_; rintro e w5 ⟨rfl, rfl⟩))
                    all_goals go_wp2
                    all_goals go_roundw
                    all_goals first | exact ⟨c, _, by omega, rfl, rfl, HN.out _⟩ | (simp [intOf]; done) | (simp [intOf]; omega)
end Go.Proofs.YtiaoffaaflmgiaaDoor.Ne
