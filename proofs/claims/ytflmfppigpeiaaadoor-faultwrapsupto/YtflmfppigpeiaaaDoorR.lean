/- formatBase10 writes bytes that depend on the number and on the row's length alone, also where the row is one place too short. -/
import Derived.Test.YtflmfppigpeiaaaDoorProg
import Derived.WalkKit
import Derived.LaidEql
import Derived.Deep.LoopGhost
import Derived.Lib.Hide
import Derived.Lib.ItoaWalk
import Derived.IntWalk
import Derived.RegionCalls
import Derived.StillTailTactics
import Derived.Deep.QuietTactic
import Derived.BigQuiet
import Derived.BigCall
import Derived.BigGuard
import Derived.CellFam
import Derived.RegionTactic
import Derived.Shelf.RegionOpenPlain
namespace Go.Proofs.YtflmfppigpeiaaaDoor
open Go.RowKit

/-- The byte at place t of a row of N for u. -/
def D (N u t : Nat) : Nat :=
  if t = 0 ∧ N % 2 = 1 then 48 + u / 100 ^ ((N - 1) / 2)
  else if (N - 1 - t) % 2 = 0 then (Lib.sm (u / 100 ^ ((N - 1 - t) / 2) % 100 * 2 + 1)).toNat else (Lib.sm (u / 100 ^ ((N - 1 - t) / 2) % 100 * 2)).toNat

/-- Only the cells of this row may have turned. -/
structure Upd (blk off N : Nat) (w w' : World) : Prop where
  os : w'.os = w.os
  tape : w'.tape = w.tape
  output : w'.output = w.output
  size : w'.heap.size = w.heap.size
  block : ∀ k, k ≠ blk → w'.heap[k]? = w.heap[k]?
  cell : ∀ o, (o < off ∨ off + N ≤ o) → w'.cell? ⟨blk, o, none⟩ = w.cell? ⟨blk, o, none⟩
  frozen : ∀ o, w'.frozen? ⟨blk, o, none⟩ = w.frozen? ⟨blk, o, none⟩

theorem Upd.refl (blk off N : Nat) (w : World) : Upd blk off N w w := ⟨rfl, rfl, rfl, rfl, fun _ _ => rfl, fun _ _ => rfl, fun _ => rfl⟩
theorem Upd.drew {blk off N : Nat} {a w : World} (h : Upd blk off N a w) : Upd blk off N a w.drew := ⟨h.os, h.tape, h.output, h.size, h.block, h.cell, h.frozen⟩
theorem Upd.set {blk off N : Nat} {a w : World} (h : Upd blk off N a w) {t : Nat} (ht : t < N) (u : Value) : Upd blk off N a (w.setCell ⟨blk, off + t, none⟩ u) :=
  ⟨h.os, h.tape, h.output, (by simp [World.setCell] : (w.setCell ⟨blk, off + t, none⟩ u).heap.size = w.heap.size).trans h.size, fun k hk => (Below.heap_setCell _ _ _ _ hk).trans (h.block k hk),
    fun o ho => (World.cell?_setCell_other _ _ _ _ (by intro e; injection e with _ e; omega)).trans (h.cell o ho), fun o => by rw [World.frozen?_setCell]; exact h.frozen o⟩

/-- Behind k pairs: the places from nd on are written, v is left. -/
def FS (w0 : World) (blk off N u nd v : Nat) (w : World) : Prop :=
  ∃ k, N = nd + 2 * k ∧ v = u / 100 ^ k ∧ (∀ t, t < N → ∃ z : Nat, w.cell? ⟨blk, off + t, none⟩ = some (.int .u8 (z : Int)) ∧ w.frozen? ⟨blk, off + t, none⟩ = false ∧ (nd ≤ t → z = D N u t)) ∧ Upd blk off N w0 w

theorem FS.drew {w0 w : World} {blk off N u nd v : Nat} (h : FS w0 blk off N u nd v w) : FS w0 blk off N u nd v w.drew := by
  obtain ⟨k, h1, h2, h3, h4⟩ := h
  exact ⟨k, h1, h2, h3, h4.drew⟩

theorem FS.pair {w0 w : World} {blk off N u nd v : Nat} (h : FS w0 blk off N u (nd + 2) v w) :
    FS w0 blk off N u nd (v / 100) ((w.setCell ⟨blk, off + (nd + 1), none⟩ (.int .u8 ((Lib.sm (v % 100 * 2 + 1)).toNat : Int))).setCell ⟨blk, off + nd, none⟩ (.int .u8 ((Lib.sm (v % 100 * 2)).toNat : Int))) := by
  obtain ⟨k, h1, h2, h3, h4⟩ := h
  refine ⟨k + 1, by omega, by rw [h2, Nat.pow_succ, Nat.div_div_eq_div_mul], fun t ht => ?_, (h4.set (by omega) _).set (by omega) _⟩
  obtain ⟨z, hz, hf, hd⟩ := h3 t ht
  have hD1 : D N u (nd + 1) = (Lib.sm (v % 100 * 2 + 1)).toNat := by
    unfold D
    rw [if_neg (by omega), if_pos (by omega), show (N - 1 - (nd + 1)) / 2 = k by omega, h2]
  have hD0 : D N u nd = (Lib.sm (v % 100 * 2)).toNat := by
    unfold D
    rw [if_neg (by omega), if_neg (by omega), show (N - 1 - nd) / 2 = k by omega, h2]
  by_cases e0 : t = nd
  · subst e0
    refine ⟨_, World.cell?_setCell_same' _ _ _ ?_, by rw [World.frozen?_setCell, World.frozen?_setCell]; exact hf, fun _ => hD0.symm⟩
    rw [World.cell?_setCell_other _ _ _ _ (by simp), hz]
    rfl
  · by_cases e1 : t = nd + 1
    · subst e1
      refine ⟨_, ?_, by rw [World.frozen?_setCell, World.frozen?_setCell]; exact hf, fun _ => hD1.symm⟩
      rw [World.cell?_setCell_other _ _ _ _ (by simp)]
      exact World.cell?_setCell_same' _ _ _ (by rw [hz]; rfl)
    · refine ⟨z, ?_, by rw [World.frozen?_setCell, World.frozen?_setCell]; exact hf, fun hle => hd (by omega)⟩
      rw [World.cell?_setCell_other _ _ _ _ (by intro e; injection e with _ e; omega), World.cell?_setCell_other _ _ _ _ (by intro e; injection e with _ e; omega)]
      exact hz

/-- The two cells that a pair writes. -/
theorem FS.spots {w0 w : World} {blk off N u nd v : Nat} (h : FS w0 blk off N u (nd + 2) v w) :
    (∃ a b : Int, w.cell? ⟨blk, off + (nd + 1), none⟩ = some (.int .u8 a) ∧ w.cell? ⟨blk, off + nd, none⟩ = some (.int .u8 b)) ∧ w.frozen? ⟨blk, off + (nd + 1), none⟩ = false ∧ w.frozen? ⟨blk, off + nd, none⟩ = false ∧ nd + 2 ≤ N := by
  obtain ⟨k, h1, h2, h3, h4⟩ := h
  obtain ⟨z1, c1, f1, _⟩ := h3 (nd + 1) (by omega)
  obtain ⟨z0, c0, f0, _⟩ := h3 nd (by omega)
  exact ⟨⟨_, _, c1, c0⟩, f1, f0, by omega⟩

/-- The row's cells as the walk takes them. -/
theorem FS.cells {w0 w : World} {blk off N u nd v : Nat} (h : FS w0 blk off N u nd v w) : ∃ G : Nat → Int, (∀ t, t < N → w.cell? ⟨blk, off + t, none⟩ = some (.int .u8 (G t))) ∧ (∀ t, t < N → w.frozen? ⟨blk, off + t, none⟩ = false) ∧ nd ≤ N := by
  obtain ⟨k, h1, h2, h3, h4⟩ := h
  refine ⟨fun t => match w.cell? ⟨blk, off + t, none⟩ with | some (.int _ z) => z | _ => 0, fun t ht => ?_, fun t ht => ?_, by omega⟩
  · obtain ⟨z, hz, _⟩ := h3 t ht
    simp only [hz]
  · obtain ⟨z, _, hf, _⟩ := h3 t ht
    exact hf

/-- The whole row is written. -/
def FEnd (w0 : World) (blk off N u : Nat) (w : World) : Prop := (∀ t, t < N → w.cell? ⟨blk, off + t, none⟩ = some (.int .u8 (D N u t : Int))) ∧ Upd blk off N w0 w

theorem FS.fin {w0 w : World} {blk off N u v : Nat} (h : FS w0 blk off N u 0 v w) : FEnd w0 blk off N u w := by
  obtain ⟨k, h1, h2, h3, h4⟩ := h
  refine ⟨fun t ht => ?_, h4⟩
  obtain ⟨z, hz, _, hd⟩ := h3 t ht
  rw [hz, hd (Nat.zero_le _)]
theorem FS.one {w0 w : World} {blk off N u v : Nat} (h : FS w0 blk off N u 1 v w) {z : Int} (hz : z = 48 + (v : Int)) : FEnd w0 blk off N u (w.setCell ⟨blk, off, none⟩ (.int .u8 z)) := by
  obtain ⟨k, h1, h2, h3, h4⟩ := h
  refine ⟨fun t ht => ?_, h4.set (t := 0) (by omega) _⟩
  obtain ⟨y, hy, _, hd⟩ := h3 t ht
  by_cases e0 : t = 0
  · subst e0
    have hD : D N u 0 = 48 + v := by
      unfold D
      rw [if_pos ⟨rfl, by omega⟩, show (N - 1) / 2 = k by omega, h2]
    rw [hD, show ((48 + v : Nat) : Int) = z by omega]
    exact World.cell?_setCell_same' _ _ _ (by rw [show (⟨blk, off, none⟩ : Addr) = ⟨blk, off + 0, none⟩ from rfl, hy]; rfl)
  · rw [World.cell?_setCell_other _ _ _ _ (by intro e; injection e with _ e; omega), hy, hd (by omega)]
theorem FS.small {w0 w : World} {blk off N u nd v : Nat} (h : FS w0 blk off N u nd v w) (hu : u < 10 ^ (N + 1)) : v < 10 ^ (nd + 1) := by
  obtain ⟨k, h1, h2, _⟩ := h
  rw [h2]
  refine Nat.div_lt_of_lt_mul ?_
  rw [h1] at hu
  have e : (10 : Nat) ^ (nd + 2 * k + 1) = 100 ^ k * 10 ^ (nd + 1) := by
    rw [show nd + 2 * k + 1 = 2 * k + (nd + 1) by omega, Nat.pow_add, Nat.pow_mul]
  rw [← e]
  exact hu
theorem FS.le {w0 w : World} {blk off N u nd v : Nat} (h : FS w0 blk off N u nd v w) : v ≤ u := by
  obtain ⟨k, h1, h2, _⟩ := h
  rw [h2]
  exact Nat.div_le_self _ _

def FRel (w0 : World) (blk off N u : Nat) (vu vn : Value) (wr : World) : Prop :=
  ∃ nd v : Nat, vu = .int .u64 (v : Int) ∧ vn = .int .i64 (nd : Int) ∧ FS w0 blk off N u nd v wr

set_option maxRecDepth 100000 in
set_option maxHeartbeats 4000000 in
theorem fb_any {w : World} {blk off N cap u : Nat} (h : FS w blk off N u N u w) (hN : N ≤ 20) (hu : u < 10 ^ (N + 1)) (hu64 : u < 18446744073709551616) :
    Calls Tryd.prog 57 #[.slice (some ⟨blk, off, none⟩) N cap, .int .u64 (u : Int)] w fun e w' => e = .returned (.tuple #[]) ∧ FEnd w blk off N u w' := by
  have HF := Lib.hid h
  have HU := Lib.hid hu
  clear h hu
  go_enter Tryd.func57, Tryd.ntmps57
  go_name_bytes SM hSM
  have eSM : SM = Lib.smalls := by rw [← hSM]; decide +kernel
  subst eSM
  clear hSM
  go_wp2
  go_loopg [1, 4] N (fun gk vu vn wr => ∃ nd v : Nat, gk = nd ∧ vu = .int .u64 (v : Int) ∧ vn = .int .i64 (nd : Int) ∧ FS w blk off N u nd v wr)
  case atStart => exact ⟨N, u, rfl, rfl, rfl, HF.out⟩
  case round =>
    obtain ⟨nd, v, hgk, hvu, hvn, hfs⟩ := hrel
    subst hgk hvu hvn
    have F0 := Lib.hid hfs
    have hv64 : v < 18446744073709551616 := by have := hfs.le; omega
    have HV := Lib.hid (hfs.small HU.out)
    clear hfs HF
    by_cases h8 : 8 ≤ gk
    · obtain ⟨m, rfl⟩ : ∃ m, gk = m + 8 := ⟨gk - 8, by omega⟩
      clear h8
      go_wp2
      go_name_slot 9 x0 hx0
      go_name_slot 8 x1 hx1
      go_name_slot 11 x2 hx2
      go_name_slot 10 x3 hx3
      have hxe0 : x0 = ((v % 100 * 2 : Nat) : Int) := by omega
      have a0 : ∀ w, (Instr.index 9 (.string Lib.smalls) (.int .u32 (x0 + 1))).run Tryd.prog w = .ok (.int .u8 ((Lib.sm (v % 100 * 2 + 1)).toNat : Int)) w := Lib.idx_smalls 9 Tryd.underlying9 .u32 _ _ (by omega) (by omega)
      have b0 : ∀ w, (Instr.index 9 (.string Lib.smalls) (.int .u32 x0)).run Tryd.prog w = .ok (.int .u8 ((Lib.sm (v % 100 * 2)).toNat : Int)) w := Lib.idx_smalls 9 Tryd.underlying9 .u32 _ _ (by omega) (by omega)
      have l0 : 0 ≤ x0 := by omega
      have m0 : x0 ≤ 198 := by omega
      have hxe1 : x1 = ((v / 100 % 100 * 2 : Nat) : Int) := by omega
      have a1 : ∀ w, (Instr.index 9 (.string Lib.smalls) (.int .u32 (x1 + 1))).run Tryd.prog w = .ok (.int .u8 ((Lib.sm (v / 100 % 100 * 2 + 1)).toNat : Int)) w := Lib.idx_smalls 9 Tryd.underlying9 .u32 _ _ (by omega) (by omega)
      have b1 : ∀ w, (Instr.index 9 (.string Lib.smalls) (.int .u32 x1)).run Tryd.prog w = .ok (.int .u8 ((Lib.sm (v / 100 % 100 * 2)).toNat : Int)) w := Lib.idx_smalls 9 Tryd.underlying9 .u32 _ _ (by omega) (by omega)
      have l1 : 0 ≤ x1 := by omega
      have m1 : x1 ≤ 198 := by omega
      have hxe2 : x2 = ((v / 100 / 100 % 100 * 2 : Nat) : Int) := by omega
      have a2 : ∀ w, (Instr.index 9 (.string Lib.smalls) (.int .u32 (x2 + 1))).run Tryd.prog w = .ok (.int .u8 ((Lib.sm (v / 100 / 100 % 100 * 2 + 1)).toNat : Int)) w := Lib.idx_smalls 9 Tryd.underlying9 .u32 _ _ (by omega) (by omega)
      have b2 : ∀ w, (Instr.index 9 (.string Lib.smalls) (.int .u32 x2)).run Tryd.prog w = .ok (.int .u8 ((Lib.sm (v / 100 / 100 % 100 * 2)).toNat : Int)) w := Lib.idx_smalls 9 Tryd.underlying9 .u32 _ _ (by omega) (by omega)
      have l2 : 0 ≤ x2 := by omega
      have m2 : x2 ≤ 198 := by omega
      have hxe3 : x3 = ((v / 100 / 100 / 100 % 100 * 2 : Nat) : Int) := by omega
      have a3 : ∀ w, (Instr.index 9 (.string Lib.smalls) (.int .u32 (x3 + 1))).run Tryd.prog w = .ok (.int .u8 ((Lib.sm (v / 100 / 100 / 100 % 100 * 2 + 1)).toNat : Int)) w := Lib.idx_smalls 9 Tryd.underlying9 .u32 _ _ (by omega) (by omega)
      have b3 : ∀ w, (Instr.index 9 (.string Lib.smalls) (.int .u32 x3)).run Tryd.prog w = .ok (.int .u8 ((Lib.sm (v / 100 / 100 / 100 % 100 * 2)).toNat : Int)) w := Lib.idx_smalls 9 Tryd.underlying9 .u32 _ _ (by omega) (by omega)
      have l3 : 0 ≤ x3 := by omega
      have m3 : x3 ≤ 198 := by omega
      clear hx0 hx1 hx2 hx3 hxe0 hxe1 hxe2 hxe3
      obtain ⟨G0, g0, f0, n0⟩ := F0.out.cells
      have F1 := Lib.hid (F0.out.pair (nd := m + 6)).drew
      clear F0
      go_region
      go_wp2
      go_name_world W1 hW1
      have e1 := F1.out
      replace F1 : Hid (FS w blk off N u (m + 6) (v / 100) W1) := by rw [← hW1]; exact e1
      clear hW1 e1 G0 g0 f0 a0 b0 l0 m0 n0
      obtain ⟨G1, g1, f1, n1⟩ := F1.out.cells
      have F2 := Lib.hid (F1.out.pair (nd := m + 4)).drew
      clear F1
      go_region
      go_wp2
      go_name_world W2 hW2
      have e2 := F2.out
      replace F2 : Hid (FS w blk off N u (m + 4) (v / 100 / 100) W2) := by rw [← hW2]; exact e2
      clear hW2 e2 G1 g1 f1 a1 b1 l1 m1 n1
      obtain ⟨G2, g2, f2, n2⟩ := F2.out.cells
      have F3 := Lib.hid (F2.out.pair (nd := m + 2)).drew
      clear F2
      go_region
      go_wp2
      go_name_world W3 hW3
      have e3 := F3.out
      replace F3 : Hid (FS w blk off N u (m + 2) (v / 100 / 100 / 100) W3) := by rw [← hW3]; exact e3
      clear hW3 e3 G2 g2 f2 a2 b2 l2 m2 n2
      obtain ⟨G3, g3, f3, n3⟩ := F3.out.cells
      have F4 := Lib.hid (F3.out.pair (nd := m)).drew
      clear F3
      go_region
      go_wp2
      go_roundg m
      case measure => omega
      case rel => exact ⟨m, v / 100 / 100 / 100 / 100, rfl, by go_num, by go_num, F4.out⟩
    · have hcase : gk = 0 ∨ gk = 1 ∨ gk = 2 ∨ gk = 3 ∨ gk = 4 ∨ gk = 5 ∨ gk = 6 ∨ gk = 7 := by omega
      clear h8
      rcases hcase with rfl | rfl | rfl | rfl | rfl | rfl | rfl | rfl
      · have hvb : v < 10 := by have h := HV.out; simpa using h
        clear HV
        go_wp2
        go_end0
        exact ⟨rfl, F0.out.fin⟩
      · have hvb : v < 100 := by have h := HV.out; simpa using h
        clear HV
        obtain ⟨G0, g0, f0, n0⟩ := F0.out.cells
        have g00 := g0 0 (by omega)
        have f00 := f0 0 (by omega)
        rw [Nat.add_zero] at g00 f00
        go_wp2
        go_end0
        exact ⟨rfl, F0.out.one (by omega)⟩
      · have hvb : v < 1000 := by have h := HV.out; simpa using h
        clear HV
        go_wp2
        go_name_slot 16 x0 hx0
        have hxe0 : x0 = ((v % 100 * 2 : Nat) : Int) := by omega
        have a0 : ∀ w, (Instr.index 9 (.string Lib.smalls) (.int .u32 (x0 + 1))).run Tryd.prog w = .ok (.int .u8 ((Lib.sm (v % 100 * 2 + 1)).toNat : Int)) w := Lib.idx_smalls 9 Tryd.underlying9 .u32 _ _ (by omega) (by omega)
        have b0 : ∀ w, (Instr.index 9 (.string Lib.smalls) (.int .u32 x0)).run Tryd.prog w = .ok (.int .u8 ((Lib.sm (v % 100 * 2)).toNat : Int)) w := Lib.idx_smalls 9 Tryd.underlying9 .u32 _ _ (by omega) (by omega)
        have l0 : 0 ≤ x0 := by omega
        have m0 : x0 ≤ 198 := by omega
        clear hx0 hxe0
        obtain ⟨G0, g0, f0, n0⟩ := F0.out.cells
        have F1 := Lib.hid (F0.out.pair (nd := 0)).drew
        clear F0
        go_region
        go_wp2
        go_end0
        exact ⟨rfl, F1.out.fin⟩
      · have hvb : v < 10000 := by have h := HV.out; simpa using h
        clear HV
        go_wp2
        go_name_slot 16 x0 hx0
        have hxe0 : x0 = ((v % 100 * 2 : Nat) : Int) := by omega
        have a0 : ∀ w, (Instr.index 9 (.string Lib.smalls) (.int .u32 (x0 + 1))).run Tryd.prog w = .ok (.int .u8 ((Lib.sm (v % 100 * 2 + 1)).toNat : Int)) w := Lib.idx_smalls 9 Tryd.underlying9 .u32 _ _ (by omega) (by omega)
        have b0 : ∀ w, (Instr.index 9 (.string Lib.smalls) (.int .u32 x0)).run Tryd.prog w = .ok (.int .u8 ((Lib.sm (v % 100 * 2)).toNat : Int)) w := Lib.idx_smalls 9 Tryd.underlying9 .u32 _ _ (by omega) (by omega)
        have l0 : 0 ≤ x0 := by omega
        have m0 : x0 ≤ 198 := by omega
        clear hx0 hxe0
        obtain ⟨G0, g0, f0, n0⟩ := F0.out.cells
        have g00 := g0 0 (by omega)
        have f00 := f0 0 (by omega)
        rw [Nat.add_zero] at g00 f00
        have F1 := Lib.hid (F0.out.pair (nd := 1)).drew
        clear F0
        go_region
        go_wp2
        go_end0
        exact ⟨rfl, F1.out.one (by omega)⟩
      · have hvb : v < 100000 := by have h := HV.out; simpa using h
        clear HV
        go_wp2
        go_name_slot 15 x0 hx0
        go_name_slot 14 x1 hx1
        have hxe0 : x0 = ((v % 100 * 2 : Nat) : Int) := by omega
        have a0 : ∀ w, (Instr.index 9 (.string Lib.smalls) (.int .u32 (x0 + 1))).run Tryd.prog w = .ok (.int .u8 ((Lib.sm (v % 100 * 2 + 1)).toNat : Int)) w := Lib.idx_smalls 9 Tryd.underlying9 .u32 _ _ (by omega) (by omega)
        have b0 : ∀ w, (Instr.index 9 (.string Lib.smalls) (.int .u32 x0)).run Tryd.prog w = .ok (.int .u8 ((Lib.sm (v % 100 * 2)).toNat : Int)) w := Lib.idx_smalls 9 Tryd.underlying9 .u32 _ _ (by omega) (by omega)
        have l0 : 0 ≤ x0 := by omega
        have m0 : x0 ≤ 198 := by omega
        have hxe1 : x1 = ((v / 100 % 100 * 2 : Nat) : Int) := by omega
        have a1 : ∀ w, (Instr.index 9 (.string Lib.smalls) (.int .u32 (x1 + 1))).run Tryd.prog w = .ok (.int .u8 ((Lib.sm (v / 100 % 100 * 2 + 1)).toNat : Int)) w := Lib.idx_smalls 9 Tryd.underlying9 .u32 _ _ (by omega) (by omega)
        have b1 : ∀ w, (Instr.index 9 (.string Lib.smalls) (.int .u32 x1)).run Tryd.prog w = .ok (.int .u8 ((Lib.sm (v / 100 % 100 * 2)).toNat : Int)) w := Lib.idx_smalls 9 Tryd.underlying9 .u32 _ _ (by omega) (by omega)
        have l1 : 0 ≤ x1 := by omega
        have m1 : x1 ≤ 198 := by omega
        clear hx0 hxe0 hx1 hxe1
        obtain ⟨G0, g0, f0, n0⟩ := F0.out.cells
        have F1 := Lib.hid (F0.out.pair (nd := 2)).drew
        clear F0
        go_region
        go_wp2
        go_name_world W1 hW1
        have e1 := F1.out
        replace F1 : Hid (FS w blk off N u (2) (v / 100) W1) := by rw [← hW1]; exact e1
        clear hW1 e1 G0 g0 f0 a0 b0 l0 m0 n0
        obtain ⟨G1, g1, f1, n1⟩ := F1.out.cells
        have F2 := Lib.hid (F1.out.pair (nd := 0)).drew
        clear F1
        go_region
        go_wp2
        go_end0
        exact ⟨rfl, F2.out.fin⟩
      · have hvb : v < 1000000 := by have h := HV.out; simpa using h
        clear HV
        go_wp2
        go_name_slot 15 x0 hx0
        go_name_slot 14 x1 hx1
        have hxe0 : x0 = ((v % 100 * 2 : Nat) : Int) := by omega
        have a0 : ∀ w, (Instr.index 9 (.string Lib.smalls) (.int .u32 (x0 + 1))).run Tryd.prog w = .ok (.int .u8 ((Lib.sm (v % 100 * 2 + 1)).toNat : Int)) w := Lib.idx_smalls 9 Tryd.underlying9 .u32 _ _ (by omega) (by omega)
        have b0 : ∀ w, (Instr.index 9 (.string Lib.smalls) (.int .u32 x0)).run Tryd.prog w = .ok (.int .u8 ((Lib.sm (v % 100 * 2)).toNat : Int)) w := Lib.idx_smalls 9 Tryd.underlying9 .u32 _ _ (by omega) (by omega)
        have l0 : 0 ≤ x0 := by omega
        have m0 : x0 ≤ 198 := by omega
        have hxe1 : x1 = ((v / 100 % 100 * 2 : Nat) : Int) := by omega
        have a1 : ∀ w, (Instr.index 9 (.string Lib.smalls) (.int .u32 (x1 + 1))).run Tryd.prog w = .ok (.int .u8 ((Lib.sm (v / 100 % 100 * 2 + 1)).toNat : Int)) w := Lib.idx_smalls 9 Tryd.underlying9 .u32 _ _ (by omega) (by omega)
        have b1 : ∀ w, (Instr.index 9 (.string Lib.smalls) (.int .u32 x1)).run Tryd.prog w = .ok (.int .u8 ((Lib.sm (v / 100 % 100 * 2)).toNat : Int)) w := Lib.idx_smalls 9 Tryd.underlying9 .u32 _ _ (by omega) (by omega)
        have l1 : 0 ≤ x1 := by omega
        have m1 : x1 ≤ 198 := by omega
        clear hx0 hxe0 hx1 hxe1
        obtain ⟨G0, g0, f0, n0⟩ := F0.out.cells
        have F1 := Lib.hid (F0.out.pair (nd := 3)).drew
        clear F0
        go_region
        go_wp2
        go_name_world W1 hW1
        have e1 := F1.out
        replace F1 : Hid (FS w blk off N u (3) (v / 100) W1) := by rw [← hW1]; exact e1
        clear hW1 e1 G0 g0 f0 a0 b0 l0 m0 n0
        obtain ⟨G1, g1, f1, n1⟩ := F1.out.cells
        have g00 := g1 0 (by omega)
        have f00 := f1 0 (by omega)
        rw [Nat.add_zero] at g00 f00
        have F2 := Lib.hid (F1.out.pair (nd := 1)).drew
        clear F1
        go_region
        go_wp2
        go_end0
        exact ⟨rfl, F2.out.one (by omega)⟩
      · have hvb : v < 10000000 := by have h := HV.out; simpa using h
        clear HV
        go_wp2
        go_name_slot 15 x0 hx0
        go_name_slot 14 x1 hx1
        have hxe0 : x0 = ((v % 100 * 2 : Nat) : Int) := by omega
        have a0 : ∀ w, (Instr.index 9 (.string Lib.smalls) (.int .u32 (x0 + 1))).run Tryd.prog w = .ok (.int .u8 ((Lib.sm (v % 100 * 2 + 1)).toNat : Int)) w := Lib.idx_smalls 9 Tryd.underlying9 .u32 _ _ (by omega) (by omega)
        have b0 : ∀ w, (Instr.index 9 (.string Lib.smalls) (.int .u32 x0)).run Tryd.prog w = .ok (.int .u8 ((Lib.sm (v % 100 * 2)).toNat : Int)) w := Lib.idx_smalls 9 Tryd.underlying9 .u32 _ _ (by omega) (by omega)
        have l0 : 0 ≤ x0 := by omega
        have m0 : x0 ≤ 198 := by omega
        have hxe1 : x1 = ((v / 100 % 100 * 2 : Nat) : Int) := by omega
        have a1 : ∀ w, (Instr.index 9 (.string Lib.smalls) (.int .u32 (x1 + 1))).run Tryd.prog w = .ok (.int .u8 ((Lib.sm (v / 100 % 100 * 2 + 1)).toNat : Int)) w := Lib.idx_smalls 9 Tryd.underlying9 .u32 _ _ (by omega) (by omega)
        have b1 : ∀ w, (Instr.index 9 (.string Lib.smalls) (.int .u32 x1)).run Tryd.prog w = .ok (.int .u8 ((Lib.sm (v / 100 % 100 * 2)).toNat : Int)) w := Lib.idx_smalls 9 Tryd.underlying9 .u32 _ _ (by omega) (by omega)
        have l1 : 0 ≤ x1 := by omega
        have m1 : x1 ≤ 198 := by omega
        clear hx0 hxe0 hx1 hxe1
        obtain ⟨G0, g0, f0, n0⟩ := F0.out.cells
        have F1 := Lib.hid (F0.out.pair (nd := 4)).drew
        clear F0
        go_region
        go_wp2
        go_name_world W1 hW1
        have e1 := F1.out
        replace F1 : Hid (FS w blk off N u (4) (v / 100) W1) := by rw [← hW1]; exact e1
        clear hW1 e1 G0 g0 f0 a0 b0 l0 m0 n0
        obtain ⟨G1, g1, f1, n1⟩ := F1.out.cells
        have F2 := Lib.hid (F1.out.pair (nd := 2)).drew
        clear F1
        go_region
        go_wp2
        go_name_world W2 hW2
        have e2 := F2.out
        replace F2 : Hid (FS w blk off N u (2) (v / 100 / 100) W2) := by rw [← hW2]; exact e2
        clear hW2 e2 G1 g1 f1 a1 b1 l1 m1 n1
        go_name_slot 16 x2 hx2
        have hxe2 : x2 = ((v / 100 / 100 % 100 * 2 : Nat) : Int) := by omega
        have a2 : ∀ w, (Instr.index 9 (.string Lib.smalls) (.int .u32 (x2 + 1))).run Tryd.prog w = .ok (.int .u8 ((Lib.sm (v / 100 / 100 % 100 * 2 + 1)).toNat : Int)) w := Lib.idx_smalls 9 Tryd.underlying9 .u32 _ _ (by omega) (by omega)
        have b2 : ∀ w, (Instr.index 9 (.string Lib.smalls) (.int .u32 x2)).run Tryd.prog w = .ok (.int .u8 ((Lib.sm (v / 100 / 100 % 100 * 2)).toNat : Int)) w := Lib.idx_smalls 9 Tryd.underlying9 .u32 _ _ (by omega) (by omega)
        have l2 : 0 ≤ x2 := by omega
        have m2 : x2 ≤ 198 := by omega
        clear hx2 hxe2
        obtain ⟨G2, g2, f2, n2⟩ := F2.out.cells
        have F3 := Lib.hid (F2.out.pair (nd := 0)).drew
        clear F2
        go_region
        go_wp2
        go_end0
        exact ⟨rfl, F3.out.fin⟩
      · have hvb : v < 100000000 := by have h := HV.out; simpa using h
        clear HV
        go_wp2
        go_name_slot 15 x0 hx0
        go_name_slot 14 x1 hx1
        have hxe0 : x0 = ((v % 100 * 2 : Nat) : Int) := by omega
        have a0 : ∀ w, (Instr.index 9 (.string Lib.smalls) (.int .u32 (x0 + 1))).run Tryd.prog w = .ok (.int .u8 ((Lib.sm (v % 100 * 2 + 1)).toNat : Int)) w := Lib.idx_smalls 9 Tryd.underlying9 .u32 _ _ (by omega) (by omega)
        have b0 : ∀ w, (Instr.index 9 (.string Lib.smalls) (.int .u32 x0)).run Tryd.prog w = .ok (.int .u8 ((Lib.sm (v % 100 * 2)).toNat : Int)) w := Lib.idx_smalls 9 Tryd.underlying9 .u32 _ _ (by omega) (by omega)
        have l0 : 0 ≤ x0 := by omega
        have m0 : x0 ≤ 198 := by omega
        have hxe1 : x1 = ((v / 100 % 100 * 2 : Nat) : Int) := by omega
        have a1 : ∀ w, (Instr.index 9 (.string Lib.smalls) (.int .u32 (x1 + 1))).run Tryd.prog w = .ok (.int .u8 ((Lib.sm (v / 100 % 100 * 2 + 1)).toNat : Int)) w := Lib.idx_smalls 9 Tryd.underlying9 .u32 _ _ (by omega) (by omega)
        have b1 : ∀ w, (Instr.index 9 (.string Lib.smalls) (.int .u32 x1)).run Tryd.prog w = .ok (.int .u8 ((Lib.sm (v / 100 % 100 * 2)).toNat : Int)) w := Lib.idx_smalls 9 Tryd.underlying9 .u32 _ _ (by omega) (by omega)
        have l1 : 0 ≤ x1 := by omega
        have m1 : x1 ≤ 198 := by omega
        clear hx0 hxe0 hx1 hxe1
        obtain ⟨G0, g0, f0, n0⟩ := F0.out.cells
        have F1 := Lib.hid (F0.out.pair (nd := 5)).drew
        clear F0
        go_region
        go_wp2
        go_name_world W1 hW1
        have e1 := F1.out
        replace F1 : Hid (FS w blk off N u (5) (v / 100) W1) := by rw [← hW1]; exact e1
        clear hW1 e1 G0 g0 f0 a0 b0 l0 m0 n0
        obtain ⟨G1, g1, f1, n1⟩ := F1.out.cells
        have F2 := Lib.hid (F1.out.pair (nd := 3)).drew
        clear F1
        go_region
        go_wp2
        go_name_world W2 hW2
        have e2 := F2.out
        replace F2 : Hid (FS w blk off N u (3) (v / 100 / 100) W2) := by rw [← hW2]; exact e2
        clear hW2 e2 G1 g1 f1 a1 b1 l1 m1 n1
        go_name_slot 16 x2 hx2
        have hxe2 : x2 = ((v / 100 / 100 % 100 * 2 : Nat) : Int) := by omega
        have a2 : ∀ w, (Instr.index 9 (.string Lib.smalls) (.int .u32 (x2 + 1))).run Tryd.prog w = .ok (.int .u8 ((Lib.sm (v / 100 / 100 % 100 * 2 + 1)).toNat : Int)) w := Lib.idx_smalls 9 Tryd.underlying9 .u32 _ _ (by omega) (by omega)
        have b2 : ∀ w, (Instr.index 9 (.string Lib.smalls) (.int .u32 x2)).run Tryd.prog w = .ok (.int .u8 ((Lib.sm (v / 100 / 100 % 100 * 2)).toNat : Int)) w := Lib.idx_smalls 9 Tryd.underlying9 .u32 _ _ (by omega) (by omega)
        have l2 : 0 ≤ x2 := by omega
        have m2 : x2 ≤ 198 := by omega
        clear hx2 hxe2
        obtain ⟨G2, g2, f2, n2⟩ := F2.out.cells
        have g00 := g2 0 (by omega)
        have f00 := f2 0 (by omega)
        rw [Nat.add_zero] at g00 f00
        have F3 := Lib.hid (F2.out.pair (nd := 1)).drew
        clear F2
        go_region
        go_wp2
        go_end0
        exact ⟨rfl, F3.out.one (by omega)⟩
end Go.Proofs.YtflmfppigpeiaaaDoor
