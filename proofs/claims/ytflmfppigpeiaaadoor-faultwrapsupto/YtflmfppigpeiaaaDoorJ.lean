/- errors.As and fault.Code at a fault with a cause: the fault's own number. -/
import Derived.Test.YtflmfppigpeiaaaDoorI
namespace Go.Proofs.YtflmfppigpeiaaaDoor
open Go.RowKit Go.Extern.Stop Go.Stop Go.Extern

theorem Tryd.noAs33 (v : Value) (xT : TypeId) (w : World) : (Instr.typeAssert (.iface 33 v) xT 79 true).run Tryd.prog w = .ok (.tuple #[.nilIface, .bool false]) w := run_typeAssert_lacksB Tryd.underlying79 (by kernel_rfl) (by kernel_rfl) v xT w
theorem Tryd.noUnwrap33 (v : Value) (xT : TypeId) (w : World) : (Instr.typeAssert (.iface 33 v) xT 82 true).run Tryd.prog w = .ok (.tuple #[.nilIface, .bool false]) w := run_typeAssert_lacksB Tryd.underlying82 (by kernel_rfl) (by kernel_rfl) v xT w
theorem Tryd.hasUnwraps33 (v : Value) (xT : TypeId) (w : World) : (Instr.typeAssert (.iface 33 v) xT 84 true).run Tryd.prog w = .ok (.tuple #[.iface 33 v, .bool true]) w := run_typeAssert_hasB Tryd.underlying84 (by kernel_rfl) v xT w
theorem Tryd.methodUnwrap (v : Value) (w : World) : (Go.method 243 33 v "Unwrap").run Tryd.prog w = .ok (11, v) w := by kernel_rfl

set_option maxHeartbeats 1000000 in
theorem as_fault (b : Nat) (n : Int) (tc : TypeId) (x : Value) (t a : Nat) (old : Value) (w : World) (c1 : w.cell? ⟨b, 1, none⟩ = some (.int .i64 n)) (c2 : w.cell? ⟨b, 2, none⟩ = some (.iface tc x))
    (ha : w.cell? ⟨a, 0, none⟩ = some (.pointer (some ⟨t, 0, none⟩))) (ht : w.cell? ⟨t, 0, none⟩ = some old) (hf : w.frozen? ⟨t, 0, none⟩ = false) :
    Calls Tryd.prog 28 #[.iface 33 (.pointer (some ⟨b, 0, none⟩)), .iface 50 (.pointer (some ⟨t, 0, none⟩)), .agg #[.pointer (some ⟨5, 50, none⟩), .pointer (some ⟨a, 0, none⟩), .int .u64 150], .iface 75 (.agg #[.pointer (some ⟨5, 28, none⟩)])] w
      (AsPost w t n) := by
  have hta := World.block_lt_of_cell? w _ ht
  have haa := World.block_lt_of_cell? w _ ha
  have hbb := World.block_lt_of_cell? w _ c1
  have t33 := Tryd.typeOf33
  have mA := Tryd.methodAssignableTo
  have a33 := Tryd.assignable33
  have n1 := Tryd.noAs33
  have n2 := Tryd.noUnwrap33
  have n3 := Tryd.hasUnwraps33
  have mU := Tryd.methodUnwrap
  have U := Lib.hid (unwrap_some b n tc x (w.alloc (.cells #[.pointer (some ⟨5, 50, none⟩), .pointer (some ⟨a, 0, none⟩), .int .u64 150] 63))
    (by rw [World.cell?_alloc_lt _ _ ⟨b, 1, none⟩ hbb]; exact c1) (by rw [World.cell?_alloc_lt _ _ ⟨b, 2, none⟩ hbb]; exact c2))
  have S := Lib.hid (as_num n t a old (((w.alloc (.cells #[.pointer (some ⟨5, 50, none⟩), .pointer (some ⟨a, 0, none⟩), .int .u64 150] 63)).alloc (.cells #[.iface 28 (.int .i64 n), .iface tc x] 25)).drew)
    (by rw [World.cell?_drew, World.cell?_alloc_lt _ _ ⟨a, 0, none⟩ (by simp at haa ⊢; omega), World.cell?_alloc_lt _ _ ⟨a, 0, none⟩ haa]; exact ha)
    (by rw [World.cell?_drew, World.cell?_alloc_lt _ _ ⟨t, 0, none⟩ (by simp at hta ⊢; omega), World.cell?_alloc_lt _ _ ⟨t, 0, none⟩ hta]; exact ht)
    (by rw [World.frozen?_drew, World.frozen?_alloc_old _ _ ⟨t, 0, none⟩ (by simp at hta ⊢; omega), World.frozen?_alloc_old _ _ ⟨t, 0, none⟩ (Nat.ne_of_lt hta)]; exact hf))
  clear c1 c2 ha ht hf
  go_enter Tryd.func28, Tryd.ntmps28
  go_wp2_with fail
  refine wp_loop_rounds 1 ?_
  rw [rounds_succ]
  go_wp2_with (first | (go_at_call 11; refine U.out.mono ?_; rintro e w' ⟨rfl, rfl⟩) | (go_at_call 30; go_in))
  refine wp_loop_rounds 1 ?_
  rw [rounds_succ]
  go_wp2_with (go_at_call 28; refine S.out.mono ?_; rintro e w' ⟨rfl, hc', hb'⟩)
  go_ret
  exact ⟨rfl, hc', (((Below.refl t w).alloc (by omega) _).alloc (by simp; omega) _).drew.trans hb'⟩

set_option maxHeartbeats 1000000 in
theorem As_fault (b : Nat) (n : Int) (tc : TypeId) (x : Value) (t : Nat) (old : Value) (w : World) (c1 : w.cell? ⟨b, 1, none⟩ = some (.int .i64 n)) (c2 : w.cell? ⟨b, 2, none⟩ = some (.iface tc x))
    (hg : w.cell? ⟨0, 0, none⟩ = some (.iface 75 (.agg #[.pointer (some ⟨5, 25, none⟩)]))) (ht : w.cell? ⟨t, 0, none⟩ = some old) (hf : w.frozen? ⟨t, 0, none⟩ = false) :
    Calls Tryd.prog 20 #[.iface 33 (.pointer (some ⟨b, 0, none⟩)), .iface 50 (.pointer (some ⟨t, 0, none⟩))] w (AsPost w t n) := by
  have hta := World.block_lt_of_cell? w _ ht
  have hgg := World.block_lt_of_cell? w _ hg
  have hbb := World.block_lt_of_cell? w _ c1
  have v50 := Tryd.valueOf50
  have t50 := Tryd.type50
  have mK := Tryd.methodKind
  have k50 := Tryd.kind50
  have k28 := Tryd.kind28
  have mE := Tryd.methodElem
  have e50 := Tryd.elem50
  have mI := Tryd.methodImplements
  have i28 := Tryd.implements28
  have nl := Tryd.isNil50 ⟨w.heap.size, 0, none⟩ ⟨t, 0, none⟩ ((w.alloc (.cells #[.pointer (some ⟨t, 0, none⟩)] 50)).alloc (.cells #[.pointer (some ⟨5, 50, none⟩), .pointer (some ⟨w.heap.size, 0, none⟩), .int .u64 150] 63)) (by simp)
  have hg2 : ((w.alloc (.cells #[.pointer (some ⟨t, 0, none⟩)] 50)).alloc (.cells #[.pointer (some ⟨5, 50, none⟩), .pointer (some ⟨w.heap.size, 0, none⟩), .int .u64 150] 63)).cell? ⟨0, 0, none⟩ = some (.iface 75 (.agg #[.pointer (some ⟨5, 25, none⟩)])) := by
    rw [World.cell?_alloc_lt _ _ ⟨0, 0, none⟩ (by simp at hgg ⊢), World.cell?_alloc_lt _ _ ⟨0, 0, none⟩ hgg]; exact hg
  have S := Lib.hid (as_fault b n tc x t w.heap.size old ((w.alloc (.cells #[.pointer (some ⟨t, 0, none⟩)] 50)).alloc (.cells #[.pointer (some ⟨5, 50, none⟩), .pointer (some ⟨w.heap.size, 0, none⟩), .int .u64 150] 63))
    (by rw [World.cell?_alloc_lt _ _ ⟨b, 1, none⟩ (by simp at hbb ⊢; omega), World.cell?_alloc_lt _ _ ⟨b, 1, none⟩ hbb]; exact c1)
    (by rw [World.cell?_alloc_lt _ _ ⟨b, 2, none⟩ (by simp at hbb ⊢; omega), World.cell?_alloc_lt _ _ ⟨b, 2, none⟩ hbb]; exact c2)
    (by simp)
    (by rw [World.cell?_alloc_lt _ _ ⟨t, 0, none⟩ (by simp at hta ⊢; omega), World.cell?_alloc_lt _ _ ⟨t, 0, none⟩ hta]; exact ht)
    (by rw [World.frozen?_alloc_old _ _ ⟨t, 0, none⟩ (by simp at hta ⊢; omega), World.frozen?_alloc_old _ _ ⟨t, 0, none⟩ (Nat.ne_of_lt hta)]; exact hf))
  clear c1 c2 ht hf hg
  go_enter Tryd.func20, Tryd.ntmps20
  go_wp2_with (first | (go_at_call 28; refine S.out.mono ?_; rintro e w' ⟨rfl, hc', hb'⟩) | go_in)
  go_ret
  exact ⟨rfl, hc', (((Below.refl t w).alloc (by omega) _).alloc (by simp; omega) _).trans hb'⟩

/-- fault.Code at a fault with a cause. -/
def CodePost (w : World) (n : Int) (e : Ending) (w' : World) : Prop := e = .returned (.int .i64 n) ∧ Below w.heap.size w w'

set_option maxHeartbeats 1000000 in
theorem code_fault (b : Nat) (n : Int) (tc : TypeId) (x : Value) (w : World) (c1 : w.cell? ⟨b, 1, none⟩ = some (.int .i64 n)) (c2 : w.cell? ⟨b, 2, none⟩ = some (.iface tc x))
    (hg : w.cell? ⟨0, 0, none⟩ = some (.iface 75 (.agg #[.pointer (some ⟨5, 25, none⟩)]))) :
    Calls Tryd.prog 9 #[.iface 33 (.pointer (some ⟨b, 0, none⟩))] w (CodePost w n) := by
  have hgg := World.block_lt_of_cell? w _ hg
  have hbb := World.block_lt_of_cell? w _ c1
  have S := Lib.hid (As_fault b n tc x w.heap.size (.int .i64 0) (w.alloc (.cells #[.int .i64 0] 28))
    (by rw [World.cell?_alloc_lt _ _ ⟨b, 1, none⟩ hbb]; exact c1)
    (by rw [World.cell?_alloc_lt _ _ ⟨b, 2, none⟩ hbb]; exact c2)
    (by rw [World.cell?_alloc_lt _ _ ⟨0, 0, none⟩ hgg]; exact hg)
    (by simp) (by simp))
  clear c1 c2 hg
  go_enter Tryd.func9, Tryd.ntmps9
  go_wp2_with (first | (go_at_call 19; refine (known_ptr _ _).mono ?_; rintro e w' ⟨rfl, rfl⟩) | (go_at_call 20; refine S.out.mono ?_; rintro e w' ⟨rfl, hc', hb'⟩))
  go_ret
  exact ⟨rfl, ((Below.refl _ w).alloc (Nat.le_refl _) _).trans hb'⟩
end Go.Proofs.YtflmfppigpeiaaaDoor
