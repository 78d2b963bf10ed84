/- stilewardsame.Nodes at two lists that are the same. -/
import Derived.Test.YtdkbdoogjehkfaaDoorNodes
import Derived.Laws.StructEq
import Derived.Deep.QuietTactic
import Derived.BigQuiet
import Derived.Handy
namespace Go.Proofs.YtdkbdoogjehkfaaDoor.Fm
open Go.RowKit Go.IntWalk Go.Proofs.YtdkbdoogjehkfaaDoor.Wd

theorem ne_node (a b c : Int) (W : World) : (binOp .neq 57 (.agg #[.int .i64 a, .int .i64 b, .int .i64 c]) (.agg #[.int .i64 a, .int .i64 b, .int .i64 c])).run Tryd.prog W = .ok (.bool false) W := by
  rw [run_neq_struct, run_equalIn_agg W 9999 _ _ _ (by kernel_rfl) (by kernel_rfl)]
  simp [Program.fieldsOf, Tryd.underlying57, go_sem]
set_option maxRecDepth 100000 in
set_option maxHeartbeats 1000000 in
theorem sameNodes_any (A B : Option Addr) (c d : Nat) (f : List Nd) (w : World) (hA : NodesAt w w.heap.size A f) (hB : NodesAt w w.heap.size B f) (hf : f.length ≤ 1000000) :
    Calls Tryd.prog 18 #[.slice A f.length c, .slice B f.length d] w fun e w' => e = .returned (.bool true) ∧ Below w.heap.size w w' := by
  have HA := Lib.hid hA
  have HB := Lib.hid hB
  have hne := fun a b c => ne_node a b c
  have hq : (((f.length : Int)) != (f.length : Int)) = false := by simp
  have HB0 : Hid (Below w.heap.size w w) := Below.refl _ _
  clear hA hB
  go_enter Tryd.func18, Tryd.ntmps18
  go_wp2
  go_loopw [5] (fun i wr => ∃ k : Nat, k ≤ f.length ∧ i = .int .i64 (k : Int) ∧ Hid (Below w.heap.size w wr)) (fun i _ => f.length - (intOf i).toNat)
  case atStart => exact ⟨0, by omega, rfl, HB0⟩
  case round =>
    clear HB0
    obtain ⟨k, hk, rfl, HW⟩ := hrel
    by_cases hlt : k < f.length
    · obtain ⟨n, hn⟩ : ∃ n, f[k]? = some n := ⟨_, List.getElem?_eq_getElem hlt⟩
      obtain ⟨ad, e, _, c0, c1, c2⟩ := (HA.out.on HW.out).at_ hn
      subst e
      obtain ⟨bd, e, _, d0, d1, d2⟩ := (HB.out.on HW.out).at_ hn
      subst e
      obtain ⟨x, y, z⟩ := n
      simp only at c0 c1 c2 d0 d1 d2
      have hnn := fun W => hne x y z W
      clear hn hne
      go_wp2_with fail
      go_region
      go_wp2
      have HN := Lib.hid (below_drewN HW.out 1)
      go_roundw
      case rel => exact ⟨k + 1, by omega, by go_num, HN⟩
      case measure => simp [intOf]; omega
    · go_wp2
      go_ret
      exact ⟨rfl, HW.out⟩
end Go.Proofs.YtdkbdoogjehkfaaDoor.Fm
