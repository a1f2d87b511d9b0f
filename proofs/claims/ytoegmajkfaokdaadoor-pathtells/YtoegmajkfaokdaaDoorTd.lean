/- The reference's Number, Flag and Text return the strings of these bytes. -/
import Derived.Test.YtoegmajkfaokdaaDoorTc
import Derived.RegionCalls
import Derived.IntWalk
import Derived.Deep.RegionHeld3
import Derived.StillTailTactics
namespace Go.Proofs.YtoegmajkfaokdaaDoor.Tp
open Go.RowKit

/-- It returns v; only new memory is written. -/
def RetB (w : World) (v : Value) (e : Ending) (w' : World) : Prop := e = .returned v ∧ Below w.heap.size w w'

set_option maxRecDepth 100000 in
theorem one_laid (w : World) (c : Nat) : Bts (w.alloc (.cells #[.int .u8 (c : Int)] 5)) (w.alloc (.cells #[.int .u8 (c : Int)] 5)).heap.size (some ⟨w.heap.size, 0, none⟩) [c] := by
  intro _
  refine ⟨w.heap.size, 0, rfl, by simp, fun k d hk => ?_⟩
  rw [cell_of_row _ _ _ _ _ _ (heap_alloc_new w _), Nat.zero_add]
  match k, hk with
  | 0, hk => simp at hk; subst hk; rfl
  | k + 1, hk => simp at hk
set_option maxRecDepth 100000 in
theorem one_conv (w : World) (c : Nat) (z : Int) (hz : z = (c : Int)) : (convert 33 9 (.slice (some ⟨w.heap.size, 0, none⟩) 1 1)).run Tryd.prog (w.alloc (.cells #[.int .u8 z] 5)) = .ok (.string (str [c])) (w.alloc (.cells #[.int .u8 z] 5)) := by
  subst hz
  exact conv_str (one_laid w c) 1

set_option maxRecDepth 100000 in
theorem one_conv_drew (w : World) (c : Nat) : (convert 33 9 (.slice (some ⟨w.heap.size, 0, none⟩) 1 1)).run Tryd.prog (w.alloc (.cells #[.int .u8 (c : Int)] 5)).drew = .ok (.string (str [c])) (w.alloc (.cells #[.int .u8 (c : Int)] 5)).drew :=
  conv_str (w := (w.alloc (.cells #[.int .u8 (c : Int)] 5)).drew) (one_laid w c) 1
set_option maxRecDepth 100000 in
theorem one_conv_below {w w' : World} {c B : Nat} (hb : Below B (w.alloc (.cells #[.int .u8 (c : Int)] 5)).drew w') (hB : w.heap.size < B) : (convert 33 9 (.slice (some ⟨w.heap.size, 0, none⟩) 1 1)).run Tryd.prog w' = .ok (.string (str [c])) w' := by
  have h : Bts (w.alloc (.cells #[.int .u8 (c : Int)] 5)).drew (w.heap.size + 1) (some ⟨w.heap.size, 0, none⟩) [c] := by
    have := one_laid w c
    rw [World.size_alloc] at this
    exact this
  exact conv_str (h.below (hb.mono hB)) 1

set_option maxRecDepth 100000 in
theorem enc_str_size (n : Nat) (h : n ≤ 4611686018427387903) : (str (enc n)).size ≤ 9 := by
  rw [str_size]
  exact enc_nine (by omega)

set_option maxRecDepth 100000 in
theorem ref_number (n : Nat) : n ≤ 4611686018427387903 → ∀ w : World, Calls Tryd.prog 41 #[.int .i64 (n : Int)] w (RetB w (.string (str (enc n)))) := by
  induction n using Nat.strongRecOn with
  | ind n ih =>
    intro hn w
    by_cases h : n < 128
    · have q1 := one_conv w n (n : Int) rfl
      rw [enc_small h]
      go_enter Tryd.func41, Tryd.ntmps41
      go_wp2_with fail
      go_ret
      exact ⟨rfl, (Below.refl _ _).alloc (Nat.le_refl _) _⟩
    · have H := Lib.hid (ih (n / 128) (by omega) (by omega))
      have hsz := enc_str_size (n / 128) (by omega)
      obtain ⟨r, hr⟩ : ∃ r : Nat, r = n % 128 := ⟨_, rfl⟩
      obtain ⟨c, hc⟩ : ∃ c : Nat, c = 128 + r := ⟨_, rfl⟩
      obtain ⟨m, hm⟩ : ∃ m : Nat, m = n / 128 := ⟨_, rfl⟩
      have h128 : 128 ≤ n := by omega
      have t1 : (n : Int).tmod 128 = (r : Int) := by rw [Int.tmod_eq_emod_of_nonneg (by omega)]; omega
      have t2 : IntKind.i64.wrap (128 + (r : Int)) = (c : Int) := by rw [show (128 + (r : Int)) = (c : Int) by omega]; exact IntWalk.i64_in _ (by omega)
      have t3 : IntKind.u8.wrap (c : Int) = (c : Int) := by simp [IntKind.wrap, IntKind.bits, IntKind.signed]; omega
      have t4 : (n : Int) / 128 = (m : Int) := by omega
      have HE : Hid (str (enc n) = str [c] ++ str (enc m)) := by rw [enc_big (by omega), str_append, hc, hr, hm]; rfl
      rw [← hm] at H hsz
      obtain ⟨s, hs⟩ : ∃ s, s = str (enc m) := ⟨_, rfl⟩
      rw [← hs] at H HE hsz
      have q1 := fun W : World => one_conv W c (c : Int) rfl
      have q2 := fun W : World => one_conv_drew W c
      have t5 : IntKind.i64.wrap (m : Int) = (m : Int) := IntWalk.i64_in _ (by omega)
      have q3 : ∀ W : World, (Op.stringOp .add (str [c]) s).run Tryd.prog W = .ok (.string (str [c] ++ s)) W := fun W => add_str W (by rw [str_size]; simp) (by omega)
      clear ih hs h hc hr hm
      go_enter Tryd.func41, Tryd.ntmps41
      go_wp2_with fail
      go_region_with (go_at_call 41; refine (H.out _).mono ?_; rintro e w' ⟨rfl, hb⟩; try (have q5 := one_conv_below hb (by simp)))
      all_goals
        first
          | have HB : Hid (Below w.heap.size w w') := ((Below.refl _ _).alloc (Nat.le_refl _) (.cells #[.int .u8 (c : Int)] 5)).drew.trans (hb.mono (by simp))
          | have HB : Hid (Below w.heap.size w w') := (Below.refl _ _).drew.trans hb
        clear hb q1 q2 q3
        go_wp2_with fail
        go_ret
        first
          | exact ⟨by rw [HE.out]; rfl, HB.out⟩
          | exact ⟨by rw [HE.out]; rfl, HB.out.alloc HB.out.size _⟩

end Go.Proofs.YtoegmajkfaokdaaDoor.Tp
