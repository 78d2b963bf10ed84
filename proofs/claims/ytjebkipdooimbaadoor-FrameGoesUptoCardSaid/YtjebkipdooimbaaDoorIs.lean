/- The walk of errors.Is where the target is the module's own ErrNone: of nil, and of an error's number. -/
import Derived.Test.YtjebkipdooimbaaDoorProg
import Derived.WalkKit
import Derived.LaidEql
import Derived.Stop.Asserts
import Derived.RowKitTokens
import Derived.Lib.Hide
import Derived.Handy
namespace Go.Proofs.YtjebkipdooimbaaDoor.Is
open Go.RowKit Go.Extern.Stop Go.Stop Go.Extern

abbrev hE : Value := .pointer (some ⟨1, 48, none⟩)
theorem typeOf (v : Value) (w : World) : (Extern.ReflectliteType.typeOf #[.iface 48 v]).run Tryd.prog w = .ok (.iface 78 (.agg #[hE])) w := by kernel_rfl
theorem comparable (w : World) : ((Extern.ReflectliteType.method fun t => do Extern.Rtype.noPackHeld "Comparable" t; (fun a => Value.bool a.comparable) <$> typeInfo t) #[.agg #[hE]]).run Tryd.prog w = .ok (.bool true) w := by kernel_rfl
theorem methodComparable (v : Value) (w : World) : (Go.method 222 78 v "Comparable").run Tryd.prog w = .ok (62, v) w := by kernel_rfl
theorem noIs (v : Value) (xT : TypeId) (w : World) : (Instr.typeAssert (.iface 48 v) xT 80 true).run Tryd.prog w = .ok (.tuple #[.nilIface, .bool false]) w := run_typeAssert_lacksB Tryd.underlying80 (by kernel_rfl) (by kernel_rfl) v xT w
theorem noUnwrap (v : Value) (xT : TypeId) (w : World) : (Instr.typeAssert (.iface 48 v) xT 83 true).run Tryd.prog w = .ok (.tuple #[.nilIface, .bool false]) w := run_typeAssert_lacksB Tryd.underlying83 (by kernel_rfl) (by kernel_rfl) v xT w
theorem noUnwraps (v : Value) (xT : TypeId) (w : World) : (Instr.typeAssert (.iface 48 v) xT 85 true).run Tryd.prog w = .ok (.tuple #[.nilIface, .bool false]) w := run_typeAssert_lacksB Tryd.underlying85 (by kernel_rfl) (by kernel_rfl) v xT w

/-- errors.Is(nil, ErrNone). -/
theorem is_nil (w : World) :
    Calls Tryd.prog 26 #[.nilIface, .iface 48 (.int .i64 5)] w fun e w' => e = .returned (.bool false) ∧ w = w' := by
  have hn := run_eql_iface_nil_left (P := Tryd.prog) w 48 (.int .i64 5) Tryd.underlying23
  go_enter Tryd.func26, Tryd.ntmps26
  go_wp2
  go_ret
  exact ⟨rfl, rfl⟩
theorem is_at (c : Int) (r : Bool) (w : World) (heq : (binOp .eql 23 (.iface 48 (.int .i64 c)) (.iface 48 (.int .i64 5))).run Tryd.prog w = .ok (.bool r) w) :
    Calls Tryd.prog 26 #[.iface 48 (.int .i64 c), .iface 48 (.int .i64 5)] w fun e w' => e = .returned (.bool r) ∧ w = w' := by
  have h8 := @run_callFunc_extern Tryd.prog 31 _ Extern.ReflectliteType.typeOf Tryd.func31 (by kernel_rfl) (by kernel_rfl) (by kernel_rfl) (by kernel_rfl)
  have h32 := @run_callFunc_extern Tryd.prog 62 _ (Extern.ReflectliteType.method fun t => do Extern.Rtype.noPackHeld "Comparable" t; pure (.bool (← typeInfo t).comparable)) Tryd.func62 (by kernel_rfl) (by kernel_rfl) (by kernel_rfl) (by kernel_rfl)
  have tT := typeOf
  have cT := comparable
  have mR := methodComparable
  have nE := noIs
  have uE := noUnwrap
  have vE := noUnwraps
  cases r
  · go_enter Tryd.func26, Tryd.ntmps26
    go_wp2
    refine wp_loop_rounds 1 ?_
    rw [rounds_succ]
    go_wp2
    go_ret
    exact ⟨rfl, rfl⟩
  · go_enter Tryd.func26, Tryd.ntmps26
    go_wp2
    refine wp_loop_rounds 1 ?_
    rw [rounds_succ]
    go_wp2
    go_ret
    exact ⟨rfl, rfl⟩
/-- errors.Is(an error's number, ErrNone), of the numbers that a reading tells. -/
theorem is_none (w : World) : Calls Tryd.prog 26 #[.iface 48 (.int .i64 5), .iface 48 (.int .i64 5)] w fun e w' => e = .returned (.bool true) ∧ w = w' :=
  is_at 5 true w (by kernel_rfl)
theorem is_other (e0 : Nat) (w : World) (h : e0 = 2 ∨ e0 = 4 ∨ e0 = 7) :
    Calls Tryd.prog 26 #[.iface 48 (.int .i64 (e0 : Int)), .iface 48 (.int .i64 5)] w fun e w' => e = .returned (.bool false) ∧ w = w' := by
  rcases h with rfl | rfl | rfl
  · exact is_at 2 false w (by kernel_rfl)
  · exact is_at 4 false w (by kernel_rfl)
  · exact is_at 7 false w (by kernel_rfl)
end Go.Proofs.YtjebkipdooimbaaDoor.Is
