/- The walk of the document's answer for until. -/
import Derived.Test.YtnlkkfcjonchgaaDoorFormM
import Derived.Test.YtnlkkfcjonchgaaDoorBoolT
import Derived.Handy
namespace Go.Proofs.YtnlkkfcjonchgaaDoor.Fm
open Go.RowKit Go.IntWalk Go.Proofs.YtnlkkfcjonchgaaDoor.Wd

set_option maxRecDepth 100000 in
set_option maxHeartbeats 2000000 in
theorem until_any (A : Option Addr) (ca : Nat) (B : Option Addr) (cb N n p : Nat) (told : Bool) (a b : Nat → Bool) (w : World) (hA : Df.BoolsAt w w.heap.size A (Rc.bF N a)) (hB : Df.BoolsAt w w.heap.size B (Rc.bF N b)) (hn : n < N) (hN : N ≤ 1000) (hp : p ≤ n) :
    Calls Tryd.prog 67 #[.slice A N ca, .slice B N cb, .int .i64 p, .int .i64 n, .bool told] w fun e w' => Hid (e = .returned (.bool (untl a b told (n - p) p))) ∧ w' = w := by
  have HA := Lib.hid hA
  have HB := Lib.hid hB
  obtain ⟨R, hR⟩ : ∃ R, R = untl a b told (n - p) p := ⟨_, rfl⟩
  rw [← hR]
  have HR : Hid (untl a b told (n - p) p = R) := hR.symm
  clear hA hB hR
  go_enter Tryd.func67, Tryd.ntmps67
  go_wp2
  go_loopw [11] (fun i wr => ∃ (q : Nat), q ≤ n ∧ i = .int .i64 q ∧ wr = w ∧ Hid (untl a b told (n - q) q = R)) (fun i _ => n - (intOf i).toNat)
  case atStart => exact ⟨p, hp, rfl, rfl, HR⟩
  case round =>
    clear HR
    obtain ⟨q, hq, rfl, rfl, HR⟩ := hrel
    by_cases hlt : q < n
    · have hg := Rc.bF_get a (show q < N by omega)
      have hg2 := Rc.bF_get b (show q < N by omega)
      obtain ⟨ad, rfl, hadb, hcell, _⟩ := HA.out.at_ hg
      obtain ⟨ad2, rfl, hadb2, hcell2, _⟩ := HB.out.at_ hg2
      have HE : Hid (R = ((b q == told) || ((a q == told) && untl a b told (n - (q + 1)) (q + 1)))) := by
        have e : n - q = (n - (q + 1)) + 1 := by omega
        rw [Hid, ← HR.out, e]; rfl
      have e1 : (q : Int) < (N : Int) := by omega
      have e2 : (q : Int) < (n : Int) := by omega
      clear hg hg2 HR
      generalize b q = bq at *
      generalize a q = aq at *
      by_cases hb : bq = told
      · obtain rfl : R = true := by rw [HE.out, hb]; simp
        subst hb
        have hbb : (bq == bq) = true := beq_self_eq_true _
        go_wp2
        go_ret
        exact ⟨rfl, rfl⟩
      · have hb1 : (bq == told) = false := beq_eq_false_iff_ne.2 hb
        by_cases ha : aq = told
        · have HR2 : Hid (untl a b told (n - (q + 1)) (q + 1) = R) := by rw [Hid, HE.out, hb1, ha]; simp
          subst ha
          have haa : (aq != aq) = false := bne_self_eq_false _
          clear HE hb
          go_wp2
          go_roundw
          case rel => exact ⟨q + 1, by omega, by go_num, by simp, HR2⟩
          case measure => simp [intOf]; omega
        · obtain rfl : R = false := by rw [HE.out, hb1, beq_eq_false_iff_ne.2 ha]; rfl
          have haa : (!aq == told) = true := by cases aq <;> cases told <;> simp_all
          clear HE hb ha
          go_wp2
          go_ret
          exact ⟨rfl, rfl⟩
    · obtain rfl : q = n := by omega
      obtain rfl : R = false := by rw [← HR.out, Nat.sub_self]; rfl
      go_wp2
      go_ret
      exact ⟨rfl, rfl⟩
end Go.Proofs.YtnlkkfcjonchgaaDoor.Fm
