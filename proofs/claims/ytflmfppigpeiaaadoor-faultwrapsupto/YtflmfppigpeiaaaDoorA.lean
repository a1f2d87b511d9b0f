/- The small functions of package fault (asFault, Wrap, New, known) answer as their text says, in every world. -/
import Derived.Test.YtflmfppigpeiaaaDoorProg
import Derived.WalkKit
import Derived.LaidEql
import Derived.Stop.Asserts
namespace Go.Proofs.YtflmfppigpeiaaaDoor
open Go.RowKit

theorem Tryd.as33 (v : Value) (w : World) : (Instr.typeAssert (.iface 33 v) 25 33 true).run Tryd.prog w = .ok (.tuple #[v, .bool true]) w := by kernel_rfl
theorem Tryd.as33num (v : Value) (w : World) : (Instr.typeAssert (.iface 28 v) 25 33 true).run Tryd.prog w = .ok (.tuple #[.pointer none, .bool false]) w := by kernel_rfl
theorem Tryd.as33nil (w : World) : (Instr.typeAssert .nilIface 25 33 true).run Tryd.prog w = .ok (.tuple #[.pointer none, .bool false]) w := by kernel_rfl
theorem Tryd.as28 (v : Value) (w : World) : (Instr.typeAssert (.iface 28 v) 25 28 true).run Tryd.prog w = .ok (.tuple #[v, .bool true]) w := by kernel_rfl
theorem Tryd.as28ptr (v : Value) (w : World) : (Instr.typeAssert (.iface 33 v) 25 28 true).run Tryd.prog w = .ok (.tuple #[.int .i64 0, .bool false]) w := by kernel_rfl
theorem Tryd.as28nil (w : World) : (Instr.typeAssert .nilIface 25 28 true).run Tryd.prog w = .ok (.tuple #[.int .i64 0, .bool false]) w := by kernel_rfl

theorem asFault_some (a : Addr) (w : World) :
    Calls Tryd.prog 23 #[.iface 33 (.pointer (some a))] w fun e w' => e = .returned (.pointer (some a)) ∧ w = w' := by
  have h1 := Tryd.as33
  have h2 := Tryd.as33num
  have h3 := Tryd.as33nil
  go_enter Tryd.func23, Tryd.ntmps23
  go_wp2
  go_ret
  exact ⟨rfl, rfl⟩

theorem asFault_nil (w : World) :
    Calls Tryd.prog 23 #[.nilIface] w fun e w' => e = .returned (.pointer none) ∧ w = w' := by
  have h1 := Tryd.as33
  have h2 := Tryd.as33num
  have h3 := Tryd.as33nil
  go_enter Tryd.func23, Tryd.ntmps23
  go_wp2
  go_ret
  exact ⟨rfl, rfl⟩

theorem asFault_num (n : Int) (w : World) :
    Calls Tryd.prog 23 #[.iface 28 (.int .i64 n)] w fun e w' => e = .returned (.pointer none) ∧ w = w' := by
  have h1 := Tryd.as33
  have h2 := Tryd.as33num
  have h3 := Tryd.as33nil
  go_enter Tryd.func23, Tryd.ntmps23
  go_wp2
  go_ret
  exact ⟨rfl, rfl⟩

theorem wrap_ok (s : ByteArray) (v : Value) (w : World) :
    Calls Tryd.prog 17 #[.string s, .int .i64 0, v] w fun e w' => e = .returned v ∧ w = w' := by
  go_enter Tryd.func17, Tryd.ntmps17
  go_wp2
  go_ret
  exact ⟨rfl, rfl⟩

theorem wrap_new0 (s : ByteArray) (n : Int) (w : World) (hn : (n == 0) = false) :
    Calls Tryd.prog 17 #[.string s, .int .i64 n, .nilIface] w fun e w' => e = .returned (.iface 33 (.pointer (some ⟨w.heap.size, 0, none⟩))) ∧
      w.alloc (.cells #[.string s, .int .i64 n, .nilIface] 55) = w' := by
  go_enter Tryd.func17, Tryd.ntmps17
  go_wp2
  go_ret
  exact ⟨rfl, rfl⟩

theorem wrap_new1 (s : ByteArray) (n : Int) (t : TypeId) (x : Value) (w : World) (hn : (n == 0) = false) :
    Calls Tryd.prog 17 #[.string s, .int .i64 n, .iface t x] w fun e w' => e = .returned (.iface 33 (.pointer (some ⟨w.heap.size, 0, none⟩))) ∧
      w.alloc (.cells #[.string s, .int .i64 n, .iface t x] 55) = w' := by
  go_enter Tryd.func17, Tryd.ntmps17
  go_wp2
  go_ret
  exact ⟨rfl, rfl⟩

/-- What an error value of this package's making is: nil, or a value with its type. -/
def IsErr (v : Value) : Prop := v = .nilIface ∨ ∃ t x, v = .iface t x

theorem wrap_new (s : ByteArray) (n : Int) (v : Value) (w : World) (hn : (n == 0) = false) (hv : IsErr v) :
    Calls Tryd.prog 17 #[.string s, .int .i64 n, v] w fun e w' => e = .returned (.iface 33 (.pointer (some ⟨w.heap.size, 0, none⟩))) ∧
      w.alloc (.cells #[.string s, .int .i64 n, v] 55) = w' := by
  rcases hv with rfl | ⟨t, x, rfl⟩
  · exact wrap_new0 s n w hn
  · exact wrap_new1 s n t x w hn

theorem new_new (s : ByteArray) (n : Int) (w : World) (hn : (n == 0) = false) :
    Calls Tryd.prog 18 #[.string s, .int .i64 n] w fun e w' => e = .returned (.iface 33 (.pointer (some ⟨w.heap.size, 0, none⟩))) ∧
      w.alloc (.cells #[.string s, .int .i64 n, .nilIface] 55) = w' := by
  go_enter Tryd.func18, Tryd.ntmps18
  go_wp2_with (go_at_call 17; refine (wrap_new0 _ _ _ hn).mono ?_; rintro e w' ⟨rfl, rfl⟩)
  go_ret
  exact ⟨rfl, rfl⟩

theorem new_ok (s : ByteArray) (w : World) :
    Calls Tryd.prog 18 #[.string s, .int .i64 0] w fun e w' => e = .returned .nilIface ∧ w = w' := by
  go_enter Tryd.func18, Tryd.ntmps18
  go_wp2_with (go_at_call 17; refine (wrap_ok _ _ _).mono ?_; rintro e w' ⟨rfl, rfl⟩)
  go_ret
  exact ⟨rfl, rfl⟩

theorem known_ptr (a : Addr) (w : World) :
    Calls Tryd.prog 19 #[.iface 33 (.pointer (some a))] w fun e w' => e = .returned (.bool true) ∧ w = w' := by
  have h1 := Tryd.as28ptr
  go_enter Tryd.func19, Tryd.ntmps19
  go_wp2_with (go_at_call 23; refine (asFault_some _ _).mono ?_; rintro e w' ⟨rfl, rfl⟩)
  go_ret
  exact ⟨rfl, rfl⟩

theorem known_num (n : Int) (w : World) :
    Calls Tryd.prog 19 #[.iface 28 (.int .i64 n)] w fun e w' => e = .returned (.bool true) ∧ w = w' := by
  have h1 := Tryd.as28
  go_enter Tryd.func19, Tryd.ntmps19
  go_wp2_with (go_at_call 23; refine (asFault_num _ _).mono ?_; rintro e w' ⟨rfl, rfl⟩)
  go_ret
  exact ⟨rfl, rfl⟩

theorem known_nil (w : World) :
    Calls Tryd.prog 19 #[.nilIface] w fun e w' => e = .returned (.bool false) ∧ w = w' := by
  have h1 := Tryd.as28nil
  go_enter Tryd.func19, Tryd.ntmps19
  go_wp2_with (go_at_call 23; refine (asFault_nil _).mono ?_; rintro e w' ⟨rfl, rfl⟩)
  go_ret
  exact ⟨rfl, rfl⟩
end Go.Proofs.YtflmfppigpeiaaaDoor
