/- Package mend's contracts for laws. -/
import Derived.Test.YtfiknbdpjnpkdaaDoorMendL
import Derived.Test.YtfiknbdpjnpkdaaDoorTwo
namespace Go.Proofs.YtfiknbdpjnpkdaaDoor.Me
open Go.RowKit Go.IntWalk Go.Proofs.YtfiknbdpjnpkdaaDoor.Wd Go.Proofs.YtfiknbdpjnpkdaaDoor.Wo Go.Proofs.YtfiknbdpjnpkdaaDoor.Df Go.Proofs.YtfiknbdpjnpkdaaDoor.Rc Go.Proofs.YtfiknbdpjnpkdaaDoor.Ne

theorem aErr_acc (d : Aut) (z : List Int) : accErr d z = aErr d z := by
  unfold accErr aErr
  by_cases h : dchk d = 0
  · rw [if_pos h, if_neg (by omega)]
  · rw [if_neg h, if_pos h]
theorem aErr_zero {d : Aut} {z : List Int} (gd : Df.Good d) (hf : Fine d.L z) : aErr d z = 0 := by
  unfold aErr; rw [if_pos (dchk_iff.2 gd)]; exact chk_iff.2 hf
theorem acc_fine {d : Aut} {l : List Int} (gd : Df.Good d) (hf : Fine d.L l) : accErr d l = 0 ∧ accOut d l = accA d l := by
  have h : accErr d l = 0 := by rw [aErr_acc]; exact aErr_zero gd hf
  exact ⟨h, by unfold accOut; rw [if_pos h]⟩
/-- What comes of a word: all that can. -/
theorem mendO2_ways (d : Aut) (z : List Int) :
    (∃ e, aErr d z = e + 1 ∧ mendO2 d z = ([], 0, e + 1) ∧ costO2 d z = (0, e + 1)) ∨
    (aErr d z = 0 ∧ mendW d z = none ∧ mendO2 d z = ([], 0, 5) ∧ costO2 d z = (0, 5)) ∨
    (∃ x, aErr d z = 0 ∧ mendW d z = some x ∧ 80 < x.2.length ∧ mendO2 d z = ([], 0, 4) ∧ costO2 d z = (x.1, 0)) ∨
    (∃ x, aErr d z = 0 ∧ mendW d z = some x ∧ x.2.length ≤ 80 ∧ mendO2 d z = (x.2, x.1, 0) ∧ costO2 d z = (x.1, 0)) := by
  rcases ha : aErr d z with _ | e
  · right
    rcases hx : mendW d z with _ | x
    · exact .inl ⟨rfl, rfl, mendO2_none ha hx, costO2_none ha hx⟩
    · right
      by_cases hl : 80 < x.2.length
      · exact .inl ⟨x, rfl, rfl, hl, mendO2_full ha hx hl, costO2_some ha hx⟩
      · exact .inr ⟨x, rfl, rfl, by omega, mendO2_some ha hx hl, costO2_some ha hx⟩
  · exact .inl ⟨e, rfl, mendO2_bad ha, costO2_bad ha⟩
theorem word_small6 {L : Int} (hL : L ≤ 6) {z : List Int} (h : Word L z) : ∀ x ∈ z, Small x := fun x hx => by
  have := h x hx
  exact ⟨by omega, by omega⟩
section
variable {W : World} {v : Value} {d : Aut} {Z : Option Addr} {cz : Nat} {z : List Int} {c k : Nat} {C : Int} {E : Value}
theorem cost_gives (h : DfaAt W W.heap.size v d) (hZ : IntsAt W W.heap.size Z z) (hz : z.length ≤ 17592186044416) (hr : costO2 d z = (c, k)) (hC : (c : Int) = C) (hE : errV k = E) :
    Calls Tryd.prog 10 #[v, .slice Z z.length cz] W fun e w' => e = .returned (.tuple #[.int .i64 C, E]) ∧ Below W.heap.size W w' :=
  (cost_any v d Z cz z W h hZ hz).mono fun e w' ⟨h1, h2⟩ => ⟨by rw [h1.out, hr, ← hC, ← hE], h2⟩
theorem mend_gives {l : List Int} (h : DfaAt W W.heap.size v d) (hZ : IntsAt W W.heap.size Z z) (hz : z.length ≤ 17592186044416) (hr : mendO2 d z = (l, c, k)) (hC : (c : Int) = C) (hE : errV k = E) (hs : ∀ x ∈ l, Small x) :
    Calls Tryd.prog 12 #[v, .slice Z z.length cz] W fun e w' => ∃ A cap, e = .returned (.tuple #[.slice A l.length cap, .int .i64 C, E]) ∧ Hid (IntsAt w' w'.heap.size A l) ∧ Below W.heap.size W w' :=
  (mend_any v d Z cz z W h hZ hz).mono fun e w' he => by
    obtain ⟨wv, h1, ho⟩ := he.out
    rw [hr] at h1 ho
    obtain ⟨A, cap, rfl, _, _, hI⟩ := own_ints_at ho (List.mem_append_right _ List.mem_cons_self) hs
    exact ⟨A, cap, by rw [h1, ← hC, ← hE], hI, ho.below⟩
end
/-! ### the closed fact -/
theorem fact_mend : mendW pairsA [1] = some (1, []) := by
  refine bestOf_iff.2 ⟨(fun x hx => by simp at hx), rfl, (by rw [lev_nil2]; rfl), fun u hu ha => ?_⟩
  have h0 : lev [1] u ≠ 0 := fun e => by
    rw [← lev_zero.1 e] at ha
    exact absurd ha (by decide)
  unfold ple plt
  by_cases e : lev [1] u = 1
  · rw [if_pos e]
    show lss u [] = false
    unfold lss
    by_cases e2 : u.length = ([] : List Int).length
    · rw [if_pos e2]
      obtain rfl := List.length_eq_zero_iff.1 e2
      rfl
    · rw [if_neg e2]; simp
  · rw [if_neg e]; simp; omega
theorem fact_out : mendO2 pairsA [1] = ([], 1, 0) := mendO2_some (x := (1, [])) rfl fact_mend (by decide)
theorem fact_cost : costO2 pairsA [1] = (1, 0) := costO2_some (x := (1, [])) rfl fact_mend
theorem one_at (W : World) : IntsAt (W.alloc (.cells #[.int .i64 1] 3)) (W.alloc (.cells #[.int .i64 1] 3)).heap.size (some ⟨W.heap.size, 0, none⟩) [1] := by
  have h := (own_start W).lit 3 1 1 #[.int .i64 1] rfl (by simp [maxLen])
  have h2 : Own W (W.alloc (.cells #[.int .i64 1] 3)) [eInts (.slice (some ⟨W.heap.size, 0, none⟩) 1 1) [1]] [] := h
  obtain ⟨A, cap, e, _, _, hI⟩ := own_ints_at h2 (List.mem_append_left _ List.mem_cons_self) (fun x hx => by simp at hx; subst hx; exact ⟨by decide, by decide⟩)
  simp only [Value.slice.injEq] at e
  rw [e.1]; exact hI
theorem fact_gives {W : World} {v : Value} (h : DfaAt W W.heap.size v pairsA) :
    Calls Tryd.prog 12 #[v, .slice (some ⟨W.heap.size, 0, none⟩) 1 1] (W.alloc (.cells #[.int .i64 1] 3)) fun e w' => ∃ A cap, e = .returned (.tuple #[.slice A 0 cap, .int .i64 1, .nilIface]) ∧ Below (W.alloc (.cells #[.int .i64 1] 3)).heap.size (W.alloc (.cells #[.int .i64 1] 3)) w' :=
  (mend_gives (z := [1]) (cz := 1) (C := 1) (E := .nilIface) (l := []) (h.on (below_alloc _ _)) (one_at W) (by decide) fact_out rfl rfl (fun x hx => by simp at hx)).mono fun e w' ⟨A, cap, h1, _, h2⟩ => ⟨A, cap, h1, h2⟩
theorem fact_costs {W : World} {v : Value} (h : DfaAt W W.heap.size v pairsA) :
    Calls Tryd.prog 10 #[v, .slice (some ⟨W.heap.size, 0, none⟩) 1 1] (W.alloc (.cells #[.int .i64 1] 3)) fun e w' => e = .returned (.tuple #[.int .i64 1, .nilIface]) ∧ Below (W.alloc (.cells #[.int .i64 1] 3)).heap.size (W.alloc (.cells #[.int .i64 1] 3)) w' :=
  cost_gives (z := [1]) (cz := 1) (C := 1) (E := .nilIface) (h.on (below_alloc _ _)) (one_at W) (by decide) fact_cost rfl rfl
set_option maxRecDepth 100000 in
set_option maxHeartbeats 2000000 in
theorem mendFact_any (w : World) : Calls Tryd.prog 14 #[] w fun e w' => e = .returned (.bool true) ∧ Below w.heap.size w w' := by
  have HP := Lib.hid (pairs4_any w)
  have HF := Lib.hid (fun W v (h : DfaAt W W.heap.size v pairsA) => fact_gives h)
  go_enter Tryd.func14, Tryd.ntmps14
  go_wp2_with fail
  refine HP.out.mono ?_
  rintro e w1 he
  obtain ⟨x, rfl, hx⟩ := he.out
  have B := Lib.hid (hx.below.alloc hx.below.size (.cells #[.int .i64 1] 3))
  have HX := Lib.hid hx.at_
  clear he hx HP
  go_wp2_with fail
  refine (HF.out _ _ HX.out).mono ?_
  rintro e w2 ⟨A, cap, rfl, hb⟩
  have B := Lib.hid (B.out.trans (hb.mono B.out.size))
  clear hb HX HF
  go_wp2
  go_ret
  exact ⟨rfl, B.out⟩
end Go.Proofs.YtfiknbdpjnpkdaaDoor.Me
