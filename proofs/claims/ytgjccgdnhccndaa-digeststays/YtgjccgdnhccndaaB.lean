/- A sum in memory; bits.RotateLeft32 by 7; (*sum).add. -/
import Derived.Test.YtgjccgdnhccndaaA
import Derived.LaidEql
import Derived.Deep.LoopGhost
import Derived.Lib.Hide
import Derived.RegionCalls
import Derived.IntWalk
import Derived.Deep.RegionHeld3
import Derived.StillTailTactics
namespace Go.Proofs.Ytgjccgdnhccndaa
open Go.RowKit

theorem ret_int {k : IntKind} {a b : Int} (h : a = b) : Ending.returned (.int k a) = .returned (.int k b) := by rw [h]

theorem rotate {s : Nat} (h : s < 4294967296) (w : World) : Calls Try.prog 18 #[.int .u32 (s : Int), .int .i64 7] w fun e w' => e = .returned (.int .u32 ((rot s : Nat) : Int)) ∧ w = w' := by
  have e7 : bits .and .u64 7 31 = 7 := by decide
  have e1 : bits .or .u32 ((s : Int) * 128 % 4294967296) ((s : Int) / 33554432) = ((rot s : Nat) : Int) := by simpa using rot_or h
  go_enter Try.func18, Try.ntmps18
  go_wp2_with fail
  go_ret
  exact ⟨rfl, rfl⟩

/-- A sum in block g: A, B, and how many bytes. -/
def SumAt (w : World) (g a b n : Nat) : Prop :=
  (w.cell? ⟨g, 0, none⟩ = some (.int .u32 (a : Int)) ∧ w.cell? ⟨g, 1, none⟩ = some (.int .u32 (b : Int)) ∧ w.cell? ⟨g, 2, none⟩ = some (.int .u64 (n : Int))) ∧
    w.frozen? ⟨g, 0, none⟩ = false ∧ w.frozen? ⟨g, 1, none⟩ = false ∧ w.frozen? ⟨g, 2, none⟩ = false

theorem SumAt.lt {w : World} {g a b n : Nat} (h : SumAt w g a b n) : g < w.heap.size := World.block_lt_of_cell? w _ h.1.1
theorem SumAt.below {w w' : World} {B g a b n : Nat} (h : SumAt w g a b n) (hb : Below B w w') (hg : g < B) : SumAt w' g a b n :=
  ⟨⟨(hb.cell (p := ⟨g, 0, none⟩) hg).trans h.1.1, (hb.cell (p := ⟨g, 1, none⟩) hg).trans h.1.2.1, (hb.cell (p := ⟨g, 2, none⟩) hg).trans h.1.2.2⟩,
    (hb.frozen (p := ⟨g, 0, none⟩) hg).trans h.2.1, (hb.frozen (p := ⟨g, 1, none⟩) hg).trans h.2.2.1, (hb.frozen (p := ⟨g, 2, none⟩) hg).trans h.2.2.2⟩

/-- The sum in block g of these bytes. -/
def SumOf (w : World) (g : Nat) (l : List Nat) : Prop := SumAt w g (st l).1 (st l).2 l.length

theorem SumAt.set0 {w : World} {g a b n : Nat} (h : SumAt w g a b n) (x : Nat) : SumAt (w.setCell ⟨g, 0, none⟩ (.int .u32 (x : Int))) g x b n := by
  obtain ⟨⟨c0, c1, c2⟩, f0, f1, f2⟩ := h
  refine ⟨⟨World.cell?_setCell_same _ _ _ c0, ?_, ?_⟩, by simp [f0], by simp [f1], by simp [f2]⟩
  · exact (World.cell?_setCell_other _ _ _ _ (by simp)).trans c1
  · exact (World.cell?_setCell_other _ _ _ _ (by simp)).trans c2
theorem SumAt.set1 {w : World} {g a b n : Nat} (h : SumAt w g a b n) (x : Nat) : SumAt (w.setCell ⟨g, 1, none⟩ (.int .u32 (x : Int))) g a x n := by
  obtain ⟨⟨c0, c1, c2⟩, f0, f1, f2⟩ := h
  refine ⟨⟨?_, World.cell?_setCell_same _ _ _ c1, ?_⟩, by simp [f0], by simp [f1], by simp [f2]⟩
  · exact (World.cell?_setCell_other _ _ _ _ (by simp)).trans c0
  · exact (World.cell?_setCell_other _ _ _ _ (by simp)).trans c2
theorem SumAt.set2 {w : World} {g a b n : Nat} (h : SumAt w g a b n) (x : Nat) : SumAt (w.setCell ⟨g, 2, none⟩ (.int .u64 (x : Int))) g a b x := by
  obtain ⟨⟨c0, c1, c2⟩, f0, f1, f2⟩ := h
  refine ⟨⟨?_, ?_, World.cell?_setCell_same _ _ _ c2⟩, by simp [f0], by simp [f1], by simp [f2]⟩
  · exact (World.cell?_setCell_other _ _ _ _ (by simp)).trans c0
  · exact (World.cell?_setCell_other _ _ _ _ (by simp)).trans c1
theorem SumAt.drew {w : World} {g a b n : Nat} (h : SumAt w g a b n) : SumAt w.drew g a b n := h

set_option maxRecDepth 100000 in
set_option maxHeartbeats 2000000 in
theorem add_one {w : World} {g a b n c B : Nat} (h : SumAt w g a b n) (hn : n < 1000000000) (hc : c < 256) (hB : B ≤ g) :
    Calls Try.prog 17 #[.pointer (some ⟨g, 0, none⟩), .int .u8 (c : Int)] w fun e w' => e = .returned (.tuple #[]) ∧ SumAt w' g (aft a c) (bft b (aft a c)) (n + 1) ∧ Below B w w' := by
  have H1 := Lib.hid (h.set0 (aft a c))
  have B1 : Hid (Below B w (w.setCell ⟨g, 0, none⟩ (.int .u32 ((aft a c : Nat) : Int)))) := (Below.refl _ _).setCell (p := ⟨g, 0, none⟩) hB _
  obtain ⟨a1, h1⟩ : ∃ a1, a1 = aft a c := ⟨_, rfl⟩
  obtain ⟨s, hs⟩ : ∃ s, s = (b + a1) % 4294967296 := ⟨_, rfl⟩
  have t0 : ((a : Int) * 16777619 + (c : Int)) % 4294967296 = (a1 : Int) := by rw [h1]; simp [aft]
  have t1 : IntKind.u32.wrap ((b : Int) + (a1 : Int)) = (s : Int) := by rw [hs, IntKind.wrap_u32']; simp
  have hs2 : s < 4294967296 := by omega
  have HR : Hid (bft b a1 = rot s) := by rw [hs]; rfl
  rw [← h1] at H1 B1 ⊢
  obtain ⟨⟨c0, -, -⟩, f0, -, -⟩ := h
  clear h1 hs
  go_enter Try.func17, Try.ntmps17
  go_wp2_with fail
  generalize w.setCell ⟨g, 0, none⟩ (.int .u32 (a1 : Int)) = w1 at H1 B1 ⊢
  clear c0 f0 t0
  obtain ⟨⟨c0, c1, -⟩, f0, f1, -⟩ := H1.out
  refine wp_region_still_tail 13 (by kernel_rfl) (by kernel_rfl) ?_
  simp only [List.take_succ_cons, List.take_zero, List.drop_succ_cons, List.drop_zero]
  repeat still_step
  still_call ((rotate hs2 w1.drew).mono fun e w' h => ⟨h.1, h.2.symm⟩)
  repeat still_step
  refine wpStill_nil ?_
  have H2 := Lib.hid (H1.out.drew.set1 (rot s))
  have B2 := Lib.hid ((B1.out.drew).setCell (p := ⟨g, 1, none⟩) hB (.int .u32 ((rot s : Nat) : Int)))
  clear c0 c1 f0 f1
  obtain ⟨⟨-, c1, c2⟩, -, f1, f2⟩ := H1.out.drew
  change wpList _ _ _ _ _ w1.drew
  generalize w1.drew = w2 at H2 B2 c1 c2 f1 f2 ⊢
  clear H1 B1 t1
  go_wp2_with fail
  go_end0
  refine ⟨rfl, ?_, ?_⟩
  · rw [HR.out]
    exact H2.out.set2 (n + 1)
  · exact B2.out.setCell (p := ⟨g, 2, none⟩) hB _
end Go.Proofs.Ytgjccgdnhccndaa
