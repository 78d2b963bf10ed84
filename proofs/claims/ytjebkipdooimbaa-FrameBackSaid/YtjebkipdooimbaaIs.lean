/- The walk of errors.Is where the target is the module's own ErrNone: of nil, and of an error's number. -/
import Derived.Test.YtjebkipdooimbaaProg
import Derived.WalkKit
import Derived.LaidEql
import Derived.Stop.Asserts
import Derived.RowKitTokens
import Derived.Lib.Hide
import Derived.Handy
namespace Go.Proofs.Ytjebkipdooimbaa.Is
open Go.RowKit Go.Extern.Stop Go.Stop Go.Extern

abbrev hE : Value := .pointer (some ⟨0, 36, none⟩)
theorem typeOf (v : Value) (w : World) : (Extern.ReflectliteType.typeOf #[.iface 36 v]).run Try.prog w = .ok (.iface 51 (.agg #[hE])) w := by kernel_rfl
theorem comparable (w : World) : ((Extern.ReflectliteType.method fun t => do Extern.Rtype.noPackHeld "Comparable" t; (fun a => Value.bool a.comparable) <$> typeInfo t) #[.agg #[hE]]).run Try.prog w = .ok (.bool true) w := by kernel_rfl
theorem methodComparable (v : Value) (w : World) : (Go.method 195 51 v "Comparable").run Try.prog w = .ok (38, v) w := by kernel_rfl
theorem noIs (v : Value) (xT : TypeId) (w : World) : (Instr.typeAssert (.iface 36 v) xT 53 true).run Try.prog w = .ok (.tuple #[.nilIface, .bool false]) w := run_typeAssert_lacksB Try.underlying53 (by kernel_rfl) (by kernel_rfl) v xT w
theorem noUnwrap (v : Value) (xT : TypeId) (w : World) : (Instr.typeAssert (.iface 36 v) xT 56 true).run Try.prog w = .ok (.tuple #[.nilIface, .bool false]) w := run_typeAssert_lacksB Try.underlying56 (by kernel_rfl) (by kernel_rfl) v xT w
theorem noUnwraps (v : Value) (xT : TypeId) (w : World) : (Instr.typeAssert (.iface 36 v) xT 58 true).run Try.prog w = .ok (.tuple #[.nilIface, .bool false]) w := run_typeAssert_lacksB Try.underlying58 (by kernel_rfl) (by kernel_rfl) v xT w

/-- errors.Is(nil, ErrNone). -/
theorem is_nil (w : World) :
    Calls Try.prog 9 #[.nilIface, .iface 36 (.int .i64 5)] w fun e w' => e = .returned (.bool false) ∧ w = w' := by
  have hn := run_eql_iface_nil_left (P := Try.prog) w 36 (.int .i64 5) Try.underlying26
  go_enter Try.func9, Try.ntmps9
  go_wp2
  go_ret
  exact ⟨rfl, rfl⟩
theorem is_at (c : Int) (r : Bool) (w : World) (heq : (binOp .eql 26 (.iface 36 (.int .i64 c)) (.iface 36 (.int .i64 5))).run Try.prog w = .ok (.bool r) w) :
    Calls Try.prog 9 #[.iface 36 (.int .i64 c), .iface 36 (.int .i64 5)] w fun e w' => e = .returned (.bool r) ∧ w = w' := by
  have h8 := @run_callFunc_extern Try.prog 14 _ Extern.ReflectliteType.typeOf Try.func14 (by kernel_rfl) (by kernel_rfl) (by kernel_rfl) (by kernel_rfl)
  have h32 := @run_callFunc_extern Try.prog 38 _ (Extern.ReflectliteType.method fun t => do Extern.Rtype.noPackHeld "Comparable" t; pure (.bool (← typeInfo t).comparable)) Try.func38 (by kernel_rfl) (by kernel_rfl) (by kernel_rfl) (by kernel_rfl)
  have tT := typeOf
  have cT := comparable
  have mR := methodComparable
  have nE := noIs
  have uE := noUnwrap
  have vE := noUnwraps
  cases r
  · go_enter Try.func9, Try.ntmps9
    go_wp2
    refine wp_loop_rounds 1 ?_
    rw [rounds_succ]
    go_wp2
    go_ret
    exact ⟨rfl, rfl⟩
  · go_enter Try.func9, Try.ntmps9
    go_wp2
    refine wp_loop_rounds 1 ?_
    rw [rounds_succ]
    go_wp2
    go_ret
    exact ⟨rfl, rfl⟩
/-- errors.Is(an error's number, ErrNone), of the numbers that a reading tells. -/
theorem is_none (w : World) : Calls Try.prog 9 #[.iface 36 (.int .i64 5), .iface 36 (.int .i64 5)] w fun e w' => e = .returned (.bool true) ∧ w = w' :=
  is_at 5 true w (by kernel_rfl)
theorem is_other (e0 : Nat) (w : World) (h : e0 = 2 ∨ e0 = 4 ∨ e0 = 7) :
    Calls Try.prog 9 #[.iface 36 (.int .i64 (e0 : Int)), .iface 36 (.int .i64 5)] w fun e w' => e = .returned (.bool false) ∧ w = w' := by
  rcases h with rfl | rfl | rfl
  · exact is_at 2 false w (by kernel_rfl)
  · exact is_at 4 false w (by kernel_rfl)
  · exact is_at 7 false w (by kernel_rfl)
end Go.Proofs.Ytjebkipdooimbaa.Is
