/- The law's helper 'first' answers true. -/
import Derived.Test.YtgjccgdnhccndaaG
import Derived.Lib.SlBytesConst
namespace Go.Proofs.Ytgjccgdnhccndaa
open Go.RowKit

/-- It answers true; only new memory is written. -/
def Fine (w : World) (e : Ending) (w' : World) : Prop := e = .returned (.bool true) ∧ Below w.heap.size w w'

theorem digs_differ : (dig [] == dig [0]) = false := by kernel_rfl

theorem a_laid (w : World) : Bts (w.alloc (.cells #[.int .u8 97] 5 (1, 2))) (w.alloc (.cells #[.int .u8 97] 5 (1, 2))).heap.size (some ⟨w.heap.size, 0, none⟩) [97] := by
  intro _
  refine ⟨w.heap.size, 0, rfl, by simp, fun k c hk => ?_⟩
  rw [cell_of_row _ _ _ _ _ _ (heap_alloc_new w _), Nat.zero_add]
  match k, hk with
  | 0, hk => simp at hk; subst hk; rfl
  | k + 1, hk => simp at hk
theorem z_laid (w : World) : Bts (w.alloc (.cells #[.int .u8 0] 5)) (w.alloc (.cells #[.int .u8 0] 5)).heap.size (some ⟨w.heap.size, 0, none⟩) [0] := by
  intro _
  refine ⟨w.heap.size, 0, rfl, by simp, fun k c hk => ?_⟩
  rw [cell_of_row _ _ _ _ _ _ (heap_alloc_new w _), Nat.zero_add]
  match k, hk with
  | 0, hk => simp at hk; subst hk; rfl
  | k + 1, hk => simp at hk
theorem a_sml : Sml [97] := by unfold Sml; decide
theorem z_sml : Sml [0] := by unfold Sml; decide
theorem no_sml : Sml [] := by unfold Sml; decide
theorem no_bts (w : World) (B : Nat) : Bts w B none [] := fun h => absurd h (by simp)
theorem no_parts (w : World) (B : Nat) : Parts w B none [] := fun h => absurd h (by simp)

theorem of_none (w : World) : Calls Try.prog 6 #[.slice none 0 0] w (RetB w (.int .i64 ((dig [] : Nat) : Int))) := of_any (l := []) (no_bts w _) no_sml (by simp)
theorem parts_none (w : World) : Calls Try.prog 10 #[.slice none 0 0] w (RetB w (.int .i64 ((dig [] : Nat) : Int))) := by
  have h := parts_any (c := 0) (no_parts w w.heap.size) (fun l hl => by simp at hl) (by simp) (fun l hl => by simp at hl)
  rw [show cat [] ([] : List (List Nat)).length = [] from rfl] at h
  exact h

set_option maxRecDepth 100000 in
theorem first_true (w : World) : Calls Try.prog 5 #[] w (Fine w) := by
  have q0 := fun W : World => Lib.run_convert_bytes_const (P := Try.prog) W 24 5 #[.int .u8 97] 1 1 Try.underlying24 Try.underlying5
  have HD := digs_differ
  have H10 := Lib.hid parts_none
  have H6 := Lib.hid of_none
  have HA : Hid (∀ W : World, Calls Try.prog 6 #[.slice (some ⟨W.heap.size, 0, none⟩) 1 1] (W.alloc (.cells #[.int .u8 97] 5 (1, 2))) (RetB (W.alloc (.cells #[.int .u8 97] 5 (1, 2))) (.int .i64 ((dig [97] : Nat) : Int)))) := fun W => of_any (l := [97]) (a_laid W) a_sml (by simp)
  have HF : Hid (∀ W : World, Calls Try.prog 7 #[.slice (some ⟨W.heap.size, 0, none⟩) 1 1] (W.alloc (.cells #[.int .u8 97] 5 (1, 2))) (RetB (W.alloc (.cells #[.int .u8 97] 5 (1, 2))) (.int .i64 ((dig [97] : Nat) : Int)))) := fun W => ref_of (l := [97]) (a_laid W) a_sml (fun h => by cases h) (by simp)
  have HZ : Hid (∀ W : World, Calls Try.prog 6 #[.slice (some ⟨W.heap.size, 0, none⟩) 1 1] (W.alloc (.cells #[.int .u8 0] 5)) (RetB (W.alloc (.cells #[.int .u8 0] 5)) (.int .i64 ((dig [0] : Nat) : Int)))) := fun W => of_any (l := [0]) (z_laid W) z_sml (by simp)
  obtain ⟨d1, h1⟩ : ∃ d1, d1 = dig [97] := ⟨_, rfl⟩
  obtain ⟨d0, h0⟩ : ∃ d0, d0 = dig [] := ⟨_, rfl⟩
  obtain ⟨dz, hz⟩ : ∃ dz, dz = dig [0] := ⟨_, rfl⟩
  rw [← h1] at HA HF
  rw [← h0] at HD H10 H6
  rw [← hz] at HZ HD
  have hne : ((d0 : Int) != (dz : Int)) = true := by
    have h : ¬ d0 = dz := by simpa using HD
    simp
    omega
  clear h1 h0 hz HD
  go_enter Try.func5, Try.ntmps5
  go_wp2_with fail
  refine (HA.out w).mono ?_
  rintro e w1 ⟨rfl, hb1⟩
  have B1 := Lib.hid (((Below.refl w.heap.size w).alloc (Nat.le_refl _) _).trans (hb1.mono (by simp)))
  clear hb1
  go_wp2_with fail
  refine (HF.out w1).mono ?_
  rintro e w2 ⟨rfl, hb2⟩
  have B2 := Lib.hid ((B1.out.alloc B1.out.size _).trans (hb2.mono (by have := B1.out.size; simp; omega)))
  clear hb2
  go_wp2_with fail
  refine (H10.out w2).mono ?_
  rintro e w3 ⟨rfl, hb3⟩
  have B3 := Lib.hid (B2.out.trans (hb3.mono B2.out.size))
  clear hb3
  go_wp2_with fail
  refine (H6.out w3).mono ?_
  rintro e w4 ⟨rfl, hb4⟩
  have B4 := Lib.hid (B3.out.trans (hb4.mono B3.out.size))
  clear hb4
  go_wp2_with fail
  refine (H6.out w4).mono ?_
  rintro e w5 ⟨rfl, hb5⟩
  have B5 := Lib.hid (B4.out.trans (hb5.mono B4.out.size))
  clear hb5
  go_wp2_with fail
  refine (HZ.out w5).mono ?_
  rintro e w6 ⟨rfl, hb6⟩
  have B6 := Lib.hid ((B5.out.alloc B5.out.size _).trans (hb6.mono (by have := B5.out.size; simp; omega)))
  clear hb6
  go_wp2_with fail
  go_ret
  exact ⟨rfl, B6.out⟩
end Go.Proofs.Ytgjccgdnhccndaa
