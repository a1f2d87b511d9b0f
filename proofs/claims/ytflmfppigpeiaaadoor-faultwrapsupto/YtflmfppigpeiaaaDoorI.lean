/- errors.as at a number, with a number's variable as the target: the number is stored there. (*Fault).Unwrap at a fault with a cause. -/
import Derived.Test.YtflmfppigpeiaaaDoorH
import Derived.StillTailTactics
namespace Go.Proofs.YtflmfppigpeiaaaDoor
open Go.RowKit Go.Extern.Stop Go.Stop Go.Extern

/-- The number is stored in the target's variable; of what lies below that variable's block nothing has turned. -/
def AsPost (w : World) (t : Nat) (n : Int) (e : Ending) (w' : World) : Prop :=
  e = .returned (.bool true) ∧ w'.cell? ⟨t, 0, none⟩ = some (.int .i64 n) ∧ Below t w w'

set_option maxHeartbeats 1000000 in
theorem as_num (n : Int) (t a : Nat) (old : Value) (w : World) (ha : w.cell? ⟨a, 0, none⟩ = some (.pointer (some ⟨t, 0, none⟩))) (ht : w.cell? ⟨t, 0, none⟩ = some old) (hf : w.frozen? ⟨t, 0, none⟩ = false) :
    Calls Tryd.prog 28 #[.iface 28 (.int .i64 n), .iface 50 (.pointer (some ⟨t, 0, none⟩)), .agg #[.pointer (some ⟨5, 50, none⟩), .pointer (some ⟨a, 0, none⟩), .int .u64 150], .iface 75 (.agg #[.pointer (some ⟨5, 28, none⟩)])] w
      (AsPost w t n) := by
  have hta := World.block_lt_of_cell? w _ ht
  have haa := World.block_lt_of_cell? w _ ha
  have t28 := Tryd.typeOf28
  have mA := Tryd.methodAssignableTo
  have a28 := Tryd.assignable28
  have v28 := Tryd.valueOf28
  have el := Tryd.elemV50 ⟨a, 0, none⟩ ⟨t, 0, none⟩ (w.alloc (.cells #[.pointer (some ⟨5, 50, none⟩), .pointer (some ⟨a, 0, none⟩), .int .u64 150] 63)) (by rw [World.cell?_alloc_lt _ _ ⟨a, 0, none⟩ haa]; exact ha)
  have st := Tryd.set28 ⟨t, 0, none⟩ ⟨w.heap.size + 1, 0, none⟩ n old ((w.alloc (.cells #[.pointer (some ⟨5, 50, none⟩), .pointer (some ⟨a, 0, none⟩), .int .u64 150] 63)).alloc (.cells #[.int .i64 n] 28))
    (by simp)
    (by rw [World.cell?_alloc_lt _ _ ⟨t, 0, none⟩ (by simp at hta ⊢; omega), World.cell?_alloc_lt _ _ ⟨t, 0, none⟩ hta]; exact ht)
    (by rw [World.frozen?_alloc_old _ _ ⟨t, 0, none⟩ (by simp at hta ⊢; omega), World.frozen?_alloc_old _ _ ⟨t, 0, none⟩ (Nat.ne_of_lt hta)]; exact hf)
  go_enter Tryd.func28, Tryd.ntmps28
  go_wp2
  refine wp_loop_rounds 1 ?_
  rw [rounds_succ]
  go_wp2
  go_ret
  refine ⟨rfl, ?_, (((Below.refl t w).setCell (p := ⟨t, 0, none⟩) (Nat.le_refl _) _).alloc (by simp [World.setCell]; omega) _).alloc (by simp [World.setCell]; omega) _⟩
  have hs : (w.setCell ⟨t, 0, none⟩ (.int .i64 n)).heap.size = w.heap.size := by simp [World.setCell]
  rw [World.cell?_alloc_lt _ _ ⟨t, 0, none⟩ (by simp [hs]; omega), World.cell?_alloc_lt _ _ ⟨t, 0, none⟩ (by rw [hs]; exact hta)]
  exact World.cell?_setCell_same _ _ _ ht

/-- What Unwrap of a fault with a cause leaves. -/
def UnwrapPost (w : World) (n : Int) (t : TypeId) (x : Value) (e : Ending) (w' : World) : Prop :=
  e = .returned (.slice (some ⟨w.heap.size, 0, none⟩) 2 2) ∧ w' = (w.alloc (.cells #[.iface 28 (.int .i64 n), .iface t x] 25)).drew

set_option maxRecDepth 100000 in
theorem unwrap_some (b : Nat) (n : Int) (t : TypeId) (x : Value) (w : World) (c1 : w.cell? ⟨b, 1, none⟩ = some (.int .i64 n)) (c2 : w.cell? ⟨b, 2, none⟩ = some (.iface t x)) :
    Calls Tryd.prog 11 #[.pointer (some ⟨b, 0, none⟩)] w (UnwrapPost w n t x) := by
  go_enter Tryd.func11, Tryd.ntmps11
  go_wp2_with fail
  go_still_tail 9, (by kernel_rfl)
  change wpList _ _ _ _ _ w.drew
  go_wp2_with fail
  go_ret
  exact ⟨rfl, rfl⟩
end Go.Proofs.YtflmfppigpeiaaaDoor
