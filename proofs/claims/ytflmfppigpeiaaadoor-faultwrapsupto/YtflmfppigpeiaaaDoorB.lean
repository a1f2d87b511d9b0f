/- errors.Is at two numbers: true just where they are equal. -/
import Derived.Test.YtflmfppigpeiaaaDoorA
import Derived.RowKitTokens
namespace Go.Proofs.YtflmfppigpeiaaaDoor
open Go.RowKit Go.Extern.Stop Go.Stop Go.Extern

theorem Tryd.eqNum (a b : Int) (w : World) : (binOp .eql 25 (.iface 28 (.int .i64 a)) (.iface 28 (.int .i64 b))).run Tryd.prog w = .ok (.bool (a == b)) w := by kernel_rfl
theorem Tryd.typeOf28 (v : Value) (w : World) : (callFunc 30 #[.iface 28 v]).run Tryd.prog w = .ok (.value (.iface 75 (.agg #[.pointer (some ⟨5, 28, none⟩)]))) w := by kernel_rfl
theorem Tryd.comparable28 (w : World) : (callFunc 82 #[.agg #[.pointer (some ⟨5, 28, none⟩)]]).run Tryd.prog w = .ok (.value (.bool true)) w := by kernel_rfl
theorem Tryd.methodComparable (v : Value) (w : World) : (Go.method 243 75 v "Comparable").run Tryd.prog w = .ok (82, v) w := by kernel_rfl
theorem Tryd.noIs28 (v : Value) (xT : TypeId) (w : World) : (Instr.typeAssert (.iface 28 v) xT 85 true).run Tryd.prog w = .ok (.tuple #[.nilIface, .bool false]) w := run_typeAssert_lacksB Tryd.underlying85 (by kernel_rfl) (by kernel_rfl) v xT w
theorem Tryd.noUnwrap28 (v : Value) (xT : TypeId) (w : World) : (Instr.typeAssert (.iface 28 v) xT 82 true).run Tryd.prog w = .ok (.tuple #[.nilIface, .bool false]) w := run_typeAssert_lacksB Tryd.underlying82 (by kernel_rfl) (by kernel_rfl) v xT w
theorem Tryd.noUnwraps28 (v : Value) (xT : TypeId) (w : World) : (Instr.typeAssert (.iface 28 v) xT 84 true).run Tryd.prog w = .ok (.tuple #[.nilIface, .bool false]) w := run_typeAssert_lacksB Tryd.underlying84 (by kernel_rfl) (by kernel_rfl) v xT w

theorem is_inner_yes (a b : Int) (w : World) (h : (a == b) = true) :
    Calls Tryd.prog 31 #[.iface 28 (.int .i64 a), .iface 28 (.int .i64 b), .bool true] w fun e w' => e = .returned (.bool true) ∧ w = w' := by
  have e1 := Tryd.eqNum
  go_enter Tryd.func31, Tryd.ntmps31
  go_wp2
  refine wp_loop_rounds 1 ?_
  rw [rounds_succ]
  go_wp2
  go_ret
  exact ⟨rfl, rfl⟩

theorem is_inner_no (a b : Int) (w : World) (h : (a == b) = false) :
    Calls Tryd.prog 31 #[.iface 28 (.int .i64 a), .iface 28 (.int .i64 b), .bool true] w fun e w' => e = .returned (.bool false) ∧ w = w' := by
  have e1 := Tryd.eqNum
  have e2 := Tryd.noIs28
  have e3 := Tryd.noUnwrap28
  have e4 := Tryd.noUnwraps28
  go_enter Tryd.func31, Tryd.ntmps31
  go_wp2
  refine wp_loop_rounds 1 ?_
  rw [rounds_succ]
  go_wp2
  go_ret
  exact ⟨rfl, rfl⟩

theorem is_num (a b : Int) (w : World) :
    Calls Tryd.prog 24 #[.iface 28 (.int .i64 a), .iface 28 (.int .i64 b)] w fun e w' => e = .returned (.bool (a == b)) ∧ w = w' := by
  have t28 := Tryd.typeOf28
  have c28 := Tryd.comparable28
  have m28 := Tryd.methodComparable
  cases h : (a == b)
  · have H := is_inner_no a b w h
    clear h
    go_enter Tryd.func24, Tryd.ntmps24
    go_wp2_with (first | (go_at_call 31; refine H.mono ?_; rintro e w' ⟨rfl, rfl⟩) | go_in)
    go_ret
    exact ⟨rfl, rfl⟩
  · have H := is_inner_yes a b w h
    clear h
    go_enter Tryd.func24, Tryd.ntmps24
    go_wp2_with (first | (go_at_call 31; refine H.mono ?_; rintro e w' ⟨rfl, rfl⟩) | go_in)
    go_ret
    exact ⟨rfl, rfl⟩
end Go.Proofs.YtflmfppigpeiaaaDoor
