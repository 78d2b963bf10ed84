/- slices.IndexFunc and slices.ContainsFunc at ints, with closures that have one or two variables: the place of the first one that is right. -/
import Derived.Test.YtkphdegelhlpeaaDfaW
namespace Go.Proofs.Ytkphdegelhlpeaa.Ix
open Go.RowKit Go.IntWalk Go.Proofs.Ytkphdegelhlpeaa.Wd Go.Proofs.Ytkphdegelhlpeaa.Wo Go.Proofs.Ytkphdegelhlpeaa.Df

/-- The place of the first one of a list that is right; -1: there is none. -/
def idxI (p : Int → Bool) (l : List Int) : Int := match l.findIdx? p with
  | some k => (k : Int)
  | none => -1
theorem idxI_at {p : Int → Bool} {l : List Int} {k : Nat} (hk : k < l.length) (hp : p l[k] = true) (h : ∀ x ∈ l.take k, p x = false) : idxI p l = (k : Int) := by
  unfold idxI
  have : l.findIdx? p = some k := by
    rw [List.findIdx?_eq_some_iff_getElem]
    refine ⟨hk, hp, fun j hj => ?_⟩
    have := h l[j] (List.mem_take_iff_getElem.2 ⟨j, by omega, rfl⟩)
    rw [this]; decide
  rw [this]
theorem idxI_no {p : Int → Bool} {l : List Int} (h : ∀ x ∈ l, p x = false) : idxI p l = -1 := by
  unfold idxI
  have : l.findIdx? p = none := by
    rw [List.findIdx?_eq_none_iff]
    exact fun x hx => h x hx
  rw [this]
theorem idxI_has (p : Int → Bool) (l : List Int) : decide (0 ≤ idxI p l) = l.any p := by
  unfold idxI
  rcases h : l.findIdx? p with _ | k
  · rw [List.findIdx?_eq_none_iff] at h
    have : l.any p = false := List.any_eq_false.2 fun x hx => by rw [h x hx]; decide
    rw [this]
    exact decide_eq_false (by show ¬ (0 ≤ (-1 : Int)); omega)
  · rw [List.findIdx?_eq_some_iff_getElem] at h
    obtain ⟨h1, h2, _⟩ := h
    have : l.any p = true := List.any_eq_true.2 ⟨l[k], List.getElem_mem h1, h2⟩
    rw [this]
    exact decide_eq_true (by show 0 ≤ (k : Int); omega)
theorem idxI_find {p : Int → Bool} {l : List Int} {y : Int} (h : l.find? p = some y) : ∃ k : Nat, idxI p l = (k : Int) ∧ l[k]? = some y := by
  unfold idxI
  rcases h2 : l.findIdx? p with _ | k
  · rw [List.findIdx?_eq_none_iff] at h2
    have h3 := h2 y (List.mem_of_find?_eq_some h)
    rw [List.find?_some h] at h3; cases h3
  · refine ⟨k, rfl, ?_⟩
    rw [List.findIdx?_eq_some_iff_getElem] at h2
    obtain ⟨k1, k2, k3⟩ := h2
    obtain ⟨hy, us, vs, rfl, h4⟩ := List.find?_eq_some_iff_append.1 h
    rcases Nat.lt_trichotomy k us.length with e | e | e
    · have := h4 us[k] (List.getElem_mem e)
      rw [List.getElem_append_left e] at k2
      rw [k2] at this; simp at this
    · subst e; simp
    · have := k3 us.length e
      simp [hy] at this

set_option maxRecDepth 100000 in
set_option maxHeartbeats 1000000 in
theorem idx1_any (fn : Nat) (hcf : ∀ args W, (callFunc fn args).run Try.prog W = .ok (.enter fn args) W) (q : Value) (A : Option Addr) (c : Nat) (l : List Int) (p : Int → Bool) (w : World) (hA : IntsAt w w.heap.size A l) (hl : l.length ≤ 1099511627776)
    (hF : ∀ x ∈ l, ∀ W, Below w.heap.size w W → Calls Try.prog fn #[.int .i64 x, q] W fun e w' => e = .returned (.bool (p x)) ∧ Below W.heap.size W w') :
    Calls Try.prog 17 #[.slice A l.length c, .func (.func fn) #[] #[q]] w fun e w' => e = .returned (.int .i64 (idxI p l)) ∧ Below w.heap.size w w' := by
  have HA := Lib.hid hA
  have HF := Lib.hid hF
  have HY : Hid (∀ x ∈ l.take 0, p x = false) := by simp [Hid]
  have HB0 : Hid (Below w.heap.size w w) := Below.refl _ _
  clear hA hF
  go_enter Try.func17, Try.ntmps17
  go_wp2
  go_loopw [8] (fun i wr => ∃ (k : Nat), k ≤ l.length ∧ i = .int .i64 k ∧ Hid (Below w.heap.size w wr) ∧ Hid (∀ x ∈ l.take k, p x = false)) (fun i _ => l.length - (intOf i).toNat)
  case atStart => exact ⟨0, by omega, rfl, HB0, HY⟩
  case round =>
    clear HY HB0
    obtain ⟨k, hk, rfl, HB, HE⟩ := hrel
    by_cases hlt : k < l.length
    · obtain ⟨ad, e, hadb, hcell, _⟩ := (HA.out.on HB.out).get (List.getElem?_eq_getElem hlt)
      subst e
      have HC := Lib.hid (HF.out l[k] (List.getElem_mem hlt) wr HB.out)
      by_cases hp : p l[k] = true
      · rw [hp] at HC
        have HR : Hid (idxI p l = (k : Int)) := idxI_at hlt hp HE.out
        clear hp
        generalize l[k] = y at *
        go_wp2_with fail
        refine HC.out.mono ?_
        rintro e w2 ⟨rfl, hb⟩
        have HB2 := Lib.hid (HB.out.trans (hb.mono HB.out.size))
        clear hb HC
        go_wp2
        go_ret
        exact ⟨by rw [HR.out]; rfl, HB2.out⟩
      · have hp' : p l[k] = false := by simpa using hp
        rw [hp'] at HC
        have HN := Lib.hid (all_take_succ HE.out hlt hp')
        clear hp hp'
        generalize l[k] = y at *
        go_wp2_with fail
        refine HC.out.mono ?_
        rintro e w2 ⟨rfl, hb⟩
        have HB2 := Lib.hid (HB.out.trans (hb.mono HB.out.size))
        clear hb HC
        go_wp2
        go_roundw
        case rel => exact ⟨k + 1, by omega, by go_num, HB2, HN⟩
        case measure => simp [intOf]; omega
    · have HR : Hid (idxI p l = -1) := idxI_no (all_take_end HE.out (show l.length ≤ k by omega))
      go_wp2
      go_ret
      exact ⟨by rw [HR.out]; rfl, HB.out⟩
set_option maxRecDepth 100000 in
set_option maxHeartbeats 1000000 in
theorem idx2_any (fn : Nat) (hcf : ∀ args W, (callFunc fn args).run Try.prog W = .ok (.enter fn args) W) (q1 q2 : Value) (A : Option Addr) (c : Nat) (l : List Int) (p : Int → Bool) (w : World) (hA : IntsAt w w.heap.size A l) (hl : l.length ≤ 1099511627776)
    (hF : ∀ x ∈ l, ∀ W, Below w.heap.size w W → Calls Try.prog fn #[.int .i64 x, q1, q2] W fun e w' => e = .returned (.bool (p x)) ∧ Below W.heap.size W w') :
    Calls Try.prog 17 #[.slice A l.length c, .func (.func fn) #[] #[q1, q2]] w fun e w' => e = .returned (.int .i64 (idxI p l)) ∧ Below w.heap.size w w' := by
  have HA := Lib.hid hA
  have HF := Lib.hid hF
  have HY : Hid (∀ x ∈ l.take 0, p x = false) := by simp [Hid]
  have HB0 : Hid (Below w.heap.size w w) := Below.refl _ _
  clear hA hF
  go_enter Try.func17, Try.ntmps17
  go_wp2
  go_loopw [8] (fun i wr => ∃ (k : Nat), k ≤ l.length ∧ i = .int .i64 k ∧ Hid (Below w.heap.size w wr) ∧ Hid (∀ x ∈ l.take k, p x = false)) (fun i _ => l.length - (intOf i).toNat)
  case atStart => exact ⟨0, by omega, rfl, HB0, HY⟩
  case round =>
    clear HY HB0
    obtain ⟨k, hk, rfl, HB, HE⟩ := hrel
    by_cases hlt : k < l.length
    · obtain ⟨ad, e, hadb, hcell, _⟩ := (HA.out.on HB.out).get (List.getElem?_eq_getElem hlt)
      subst e
      have HC := Lib.hid (HF.out l[k] (List.getElem_mem hlt) wr HB.out)
      by_cases hp : p l[k] = true
      · rw [hp] at HC
        have HR : Hid (idxI p l = (k : Int)) := idxI_at hlt hp HE.out
        clear hp
        generalize l[k] = y at *
        go_wp2_with fail
        refine HC.out.mono ?_
        rintro e w2 ⟨rfl, hb⟩
        have HB2 := Lib.hid (HB.out.trans (hb.mono HB.out.size))
        clear hb HC
        go_wp2
        go_ret
        exact ⟨by rw [HR.out]; rfl, HB2.out⟩
      · have hp' : p l[k] = false := by simpa using hp
        rw [hp'] at HC
        have HN := Lib.hid (all_take_succ HE.out hlt hp')
        clear hp hp'
        generalize l[k] = y at *
        go_wp2_with fail
        refine HC.out.mono ?_
        rintro e w2 ⟨rfl, hb⟩
        have HB2 := Lib.hid (HB.out.trans (hb.mono HB.out.size))
        clear hb HC
        go_wp2
        go_roundw
        case rel => exact ⟨k + 1, by omega, by go_num, HB2, HN⟩
        case measure => simp [intOf]; omega
    · have HR : Hid (idxI p l = -1) := idxI_no (all_take_end HE.out (show l.length ≤ k by omega))
      go_wp2
      go_ret
      exact ⟨by rw [HR.out]; rfl, HB.out⟩
set_option maxRecDepth 100000 in
theorem has1_any (fn : Nat) (hcf : ∀ args W, (callFunc fn args).run Try.prog W = .ok (.enter fn args) W) (q : Value) (A : Option Addr) (c : Nat) (l : List Int) (p : Int → Bool) (w : World) (hA : IntsAt w w.heap.size A l) (hl : l.length ≤ 1099511627776)
    (hF : ∀ x ∈ l, ∀ W, Below w.heap.size w W → Calls Try.prog fn #[.int .i64 x, q] W fun e w' => e = .returned (.bool (p x)) ∧ Below W.heap.size W w') :
    Calls Try.prog 19 #[.slice A l.length c, .func (.func fn) #[] #[q]] w fun e w' => e = .returned (.bool (l.any p)) ∧ Below w.heap.size w w' := by
  have HI := Lib.hid (idx1_any fn hcf q A c l p w hA hl hF)
  have HZ := Lib.hid (idxI_has p l)
  clear hA hF
  generalize l.any p = r at *
  generalize idxI p l = z at *
  go_enter Try.func19, Try.ntmps19
  go_wp2_with fail
  refine HI.out.mono ?_
  rintro e w2 ⟨rfl, hb⟩
  have HB := Lib.hid hb
  clear hb HI
  go_wp2
  go_ret
  exact ⟨by show Ending.returned (Value.bool (decide (0 ≤ z))) = _; rw [HZ.out], HB.out⟩
end Go.Proofs.Ytkphdegelhlpeaa.Ix
