/- The walk of near.Distance. -/
import Derived.Test.YtfiknbdpjnpkdaaNearW
namespace Go.Proofs.Ytfiknbdpjnpkdaa.Ne
open Go.RowKit Go.IntWalk Go.Proofs.Ytfiknbdpjnpkdaa.Wd Go.Proofs.Ytfiknbdpjnpkdaa.Wo

def distOut (L : Int) (v z : List Int) : Nat × Nat := if chk2 L v z = 0 then (lev v z, 0) else (0, chk2 L v z)
/-- The first row, as far as place k. -/
def First (z : List Int) (k : Nat) (l : List Int) : Prop := l.length = z.length + 1 ∧ ∀ j, j < k → l[j]? = some (j : Int)
theorem first_next {z : List Int} {k : Nat} {l : List Int} (h : First z k l) (hk : k < z.length + 1) : First z (k + 1) (l.set k (k : Int)) := by
  refine ⟨by rw [List.length_set]; exact h.1, fun j hj => ?_⟩
  rw [List.getElem?_set]
  split
  · rename_i e
    subst e
    rw [if_pos (by rw [h.1]; omega)]
  · exact h.2 j (by omega)
theorem first_end {z l : List Int} (h : First z (z.length + 1) l) : PRow [] z l := by
  refine ⟨h.1, fun j hj => ?_⟩
  rw [h.2 j (by omega), lev_nil, List.length_take, Nat.min_eq_left hj]
/-- The row that is held at the head of the second loop. -/
def Held (w : World) (z v : List Int) (k : Nat) (x : Value) (wr : World) : Prop :=
  ∃ R c l, x = .slice R (z.length + 1) c ∧ IntsAt wr wr.heap.size R l ∧ PRow (v.take k) z l ∧ Below w.heap.size w wr
theorem prow_small {v z l : List Int} (h : PRow v z l) (hv : v.length ≤ 80) (hz : z.length ≤ 80) : ∀ x ∈ l, Small x := by
  intro y hy
  obtain ⟨j, hj, e⟩ := List.getElem_of_mem hy
  have h1 := h.2 j (by have := h.1; omega)
  rw [List.getElem?_eq_getElem hj] at h1
  have e2 := Option.some.inj h1
  have h3 := lev_take v z j
  rw [← e, e2]
  unfold Small
  omega
theorem held_of {w w0 w1 : World} {B : Nat} {z v l : List Int} {k : Nat} {x : Value} (h : Nums B w0 l x w1) (hp : PRow (v.take k) z l) (hv : v.length ≤ 80) (hz : z.length ≤ 80) (hb : Below w.heap.size w w1) : Held w z v k x w1 := by
  obtain ⟨R, c, e, hc⟩ := nums_at h
  rw [hp.1] at e
  have := List.length_take (i := k) (l := v)
  exact ⟨R, c, l, e, ⟨hc, prow_small hp (by omega) hz⟩, hp, hb⟩
set_option maxRecDepth 100000 in
set_option maxHeartbeats 1000000 in
theorem dist_any (L : Int) (A : Option Addr) (c : Nat) (v : List Int) (B : Option Addr) (d : Nat) (z : List Int) (w : World) (hL : Small L) (hA : IntsAt w w.heap.size A v) (hB : IntsAt w w.heap.size B z) (hv : v.length ≤ 17592186044416) (hz : z.length ≤ 17592186044416) :
    Calls Try.prog 9 #[.int .i64 L, .slice A v.length c, .slice B z.length d] w fun e w' => Hid (e = .returned (.tuple #[.int .i64 ((distOut L v z).1 : Int), errV (distOut L v z).2])) ∧ Below w.heap.size w w' := by
  rcases hc : chk2 L v z with _ | e0
  · have HC := Lib.hid (nchk_ok L A c v B d z w hL hA hB hv hz hc)
    obtain ⟨⟨_, h80, _⟩, _, k80, _⟩ := chk2_iff.1 hc
    have HA := Lib.hid hA
    have HB := Lib.hid hB
    have HR : Hid (distOut L v z = (lev v z, 0)) := by unfold distOut Hid; rw [if_pos hc]
    clear hA hB hc
    go_enter Try.func9, Try.ntmps9
    go_wp2_with fail
    refine HC.out.mono ?_
    rintro e w1 ⟨rfl, rfl⟩
    clear HC
    go_wp2_with (at_make; refine mk_ints rfl _ _ rfl (z.length + 1) rfl rfl (by omega) ?_)
    intro w1 hn
    have HN : Hid (∃ l, Nums w.heap.size w l (.slice (some ⟨w.heap.size, 0, none⟩) (z.length + 1) (z.length + 1)) w1 ∧ First z 0 l) := ⟨_, hn, by simp, fun j hj => by omega⟩
    clear hn
    go_wp2
    go_loopw [26] (fun i wr => ∃ (k : Nat), k ≤ z.length + 1 ∧ i = .int .i64 k ∧ Hid (∃ l, Nums w.heap.size w l (.slice (some ⟨w.heap.size, 0, none⟩) (z.length + 1) (z.length + 1)) wr ∧ First z k l)) (fun i _ => z.length + 1 - (intOf i).toNat)
    case atStart => exact ⟨0, by omega, rfl, HN⟩
    case round =>
      obtain ⟨k, hk, rfl, HM⟩ := hrel
      obtain ⟨l, hl, hm⟩ := HM.out
      have HL := Lib.hid hl
      have HF := Lib.hid hm
      clear HM HN hl hm
      by_cases hlt : k < z.length + 1
      · obtain ⟨old, _, hc1, hf1⟩ := nums_ex HL.out HF.out.1 k hlt
        have HN : Hid (∃ l, Nums w.heap.size w l (.slice (some ⟨w.heap.size, 0, none⟩) (z.length + 1) (z.length + 1)) (wr.setCell ⟨w.heap.size, k, none⟩ (.int .i64 (k : Int))) ∧ First z (k + 1) l) :=
          ⟨_, nums_set HL.out HF.out.1.symm _ _, first_next HF.out hlt⟩
        have hk3 : (k : Int) < (z.length : Int) + 1 := by omega
        go_wp2
        go_roundw
        case rel => exact ⟨k + 1, by omega, by go_num, HN⟩
        case measure => simp [intOf]; omega
      · obtain rfl : k = z.length + 1 := by omega
        have HX : Hid (Held w z v 0 (.slice (some ⟨w.heap.size, 0, none⟩) (z.length + 1) (z.length + 1)) wr) := held_of HL.out (first_end HF.out) h80 k80 HL.out.2.1
        have hk3 : ¬ ((z.length : Int) + 1 < (z.length : Int) + 1) := by omega
        clear HL HF
        go_wp2
        go_loopw [9, 36] (fun s i wr => ∃ (k : Nat), k ≤ v.length ∧ i = .int .i64 k ∧ Hid (Held w z v k s wr)) (fun _ i _ => v.length - (intOf i).toNat)
        case atStart => exact ⟨0, by omega, rfl, HX⟩
        case round =>
          clear HX
          obtain ⟨k, hk, rfl, HX⟩ := hrel
          obtain ⟨R, c1, l, hs, hl, hp, hb⟩ := HX.out
          subst hs
          by_cases hlt : k < v.length
          · obtain ⟨ad, rfl, hadb, hcell, hs1, hs2⟩ := (HA.out.on hb).at_ k hlt
            have HT := Lib.hid (List.take_append_getElem hlt)
            have h81 := List.length_take (i := k) (l := v)
            have HW := Lib.hid (nextRow_any R c1 l v[k] B d z (v.take k) wr hl (HB.out.on hb) hp k80 (by omega))
            have HBW := Lib.hid hb
            clear hl hp hb HX h81
            generalize v[k] = x at *
            go_wp2_with fail
            refine HW.out.mono ?_
            rintro e w2 he
            obtain ⟨x2, l2, he1, he2, he3⟩ := he.out
            obtain rfl := he1
            have HN : Hid (Held w z v (k + 1) x2 w2) := by
              rw [HT.out] at he3
              exact held_of he2 he3 h80 k80 (HBW.out.trans (he2.2.1.mono HBW.out.size))
            clear he he2 he3 HW HBW
            go_wp2
            go_roundw
            case rel => exact ⟨k + 1, by omega, by go_num, HN⟩
            case measure => simp [intOf]; omega
          · obtain rfl : k = v.length := by omega
            obtain ⟨ad, rfl, hadb, hcell, _⟩ := ints_get hl (hp.2 z.length (by omega))
            rw [List.take_length, List.take_length] at hcell
            have HBW := Lib.hid hb
            clear hl hp hb HX
            generalize lev v z = X at *
            have hk3 : (z.length : Int) < (z.length : Int) + 1 := by omega
            go_wp2
            go_ret2
            exact ⟨by rw [HR.out]; rfl, HBW.out⟩
  · have HC := Lib.hid (nchk_bad L A c v B d z w hL hA hB hv hz e0 hc)
    have HR : Hid (distOut L v z = (0, e0 + 1)) := by unfold distOut Hid; rw [if_neg (by omega), hc]
    clear hc
    generalize hE : ((e0 + 1 : Nat) : Int) = E at *
    have HE := Lib.hid hE
    clear hE
    go_enter Try.func9, Try.ntmps9
    go_wp2_with fail
    refine HC.out.mono ?_
    rintro e w1 ⟨rfl, rfl⟩
    clear HC
    go_wp2
    go_ret2
    obtain rfl := HE.out
    exact ⟨by rw [HR.out]; rfl, Below.refl _ _⟩
end Go.Proofs.Ytfiknbdpjnpkdaa.Ne
