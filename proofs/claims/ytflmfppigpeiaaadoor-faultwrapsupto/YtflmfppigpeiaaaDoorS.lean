/- strconv.Itoa and Errno.Error: the text depends on the number and on the library's table alone, whatever the table holds. -/
import Derived.Test.YtflmfppigpeiaaaDoorR
import Derived.Shelf.Strconv.Itoa0
import Derived.Shelf.Strconv.Itoa1
import Derived.Laws.BytesArg
namespace Go.Proofs
open Go.Shelf
def Tryd.layI_ren : Go.Shelf.Ren := ⟨fun | 129 => 60 | 317 => 59 | 318 => 61 | 283 => 55 | n => n, fun | 46 => 115 | 53 => 104 | n => n, fun n => n⟩
theorem Tryd.lays129 : Lays.n129 Tryd.prog Tryd.layI_ren := {
  mixed := by kernel_rfl
  f129 := Tryd.func60.trans (congrArg some (by kernel_rfl))
  t3 := Tryd.underlying3
  a3 := Tryd.isAgg3
  z3 := Tryd.sizeOf3
  v3 := Tryd.zeroValue3
  t4 := Tryd.underlying4
  a4 := Tryd.isAgg4
  z4 := Tryd.sizeOf4
  v4 := Tryd.zeroValue4
  t5 := Tryd.underlying5
  a5 := Tryd.isAgg5
  z5 := Tryd.sizeOf5
  v5 := Tryd.zeroValue5
  t9 := Tryd.underlying9
  a9 := Tryd.isAgg9
  z9 := Tryd.sizeOf9
  v9 := Tryd.zeroValue9
  t46 := Tryd.underlying115
  a46 := Tryd.isAgg115
  z46 := Tryd.sizeOf115
  v46 := Tryd.zeroValue115
  t53 := Tryd.underlying104
  a53 := Tryd.isAgg104
  z53 := Tryd.sizeOf104
  v53 := Tryd.zeroValue104 }
theorem Tryd.lays317 : Lays.n317 Tryd.prog Tryd.layI_ren := {
  mixed := by kernel_rfl
  f317 := Tryd.func59.trans (congrArg some (by kernel_rfl))
  t3 := Tryd.underlying3
  a3 := Tryd.isAgg3
  z3 := Tryd.sizeOf3
  v3 := Tryd.zeroValue3
  t46 := Tryd.underlying115
  a46 := Tryd.isAgg115
  z46 := Tryd.sizeOf115
  v46 := Tryd.zeroValue115 }
theorem Tryd.lays318 : Lays.n318 Tryd.prog Tryd.layI_ren := {
  mixed := by kernel_rfl
  f318 := Tryd.func61.trans (congrArg some (by kernel_rfl))
  t3 := Tryd.underlying3
  a3 := Tryd.isAgg3
  z3 := Tryd.sizeOf3
  v3 := Tryd.zeroValue3
  t4 := Tryd.underlying4
  a4 := Tryd.isAgg4
  z4 := Tryd.sizeOf4
  v4 := Tryd.zeroValue4 }
theorem Tryd.lays283 : Lays.n283 Tryd.prog Tryd.layI_ren := {
  mixed := by kernel_rfl
  f283 := Tryd.func55.trans (congrArg some (by kernel_rfl))
  t3 := Tryd.underlying3
  a3 := Tryd.isAgg3
  z3 := Tryd.sizeOf3
  v3 := Tryd.zeroValue3
  t4 := Tryd.underlying4
  a4 := Tryd.isAgg4
  z4 := Tryd.sizeOf4
  v4 := Tryd.zeroValue4
  t9 := Tryd.underlying9
  a9 := Tryd.isAgg9
  z9 := Tryd.sizeOf9
  v9 := Tryd.zeroValue9 }
namespace YtflmfppigpeiaaaDoor
open Go.RowKit

theorem len64_any (x : Int) (w : World) (h0 : 0 ≤ x) (h1 : x ≤ 18446744073709551615) : Calls Tryd.prog 60 #[.int .u64 x] w fun e w' => e = .returned (.int .i64 (Lib.bitLen x.toNat)) ∧ w' = w := Any.bits_Len64 Tryd.lays129 x w h0 h1
theorem log10_any (x : Nat) (h : x ≤ 64) (w : World) : Calls Tryd.prog 59 #[.int .i64 x] w fun e w' => e = .returned (.int .i64 (Lib.l10 x)) ∧ w' = w := Any.internal_strconv_log10Pow2 Tryd.lays317 x h w
theorem bool2_any (b : Bool) (w : World) : Calls Tryd.prog 61 #[.bool b] w fun e w' => e = .returned (.int .i64 (if b then 1 else 0)) ∧ w' = w := Any.internal_strconv_bool2_int Tryd.lays318 b w
theorem small_any (i : Nat) (h : i < 100) (w : World) : Calls Tryd.prog 55 #[.int .i64 i] w fun e w' => e = .returned (.string ⟨(Lib.decDigits i).toArray⟩) ∧ w' = w := Any.internal_strconv_small Tryd.lays283 i h w

theorem l10_fin : ∀ b : Fin 65, Lib.l10 b.val ≤ 19 ∧ 2 ^ b.val ≤ 10 ^ (Lib.l10 b.val + 1) := by decide +kernel
theorem aux_le : ∀ f x : Nat, Lib.bitLenAux f x ≤ f
  | 0, x => by simp [Lib.bitLenAux]
  | f + 1, x => by
    have := aux_le f (x / 2)
    simp only [Lib.bitLenAux]
    split <;> omega
theorem aux_lt : ∀ f x : Nat, x < 2 ^ f → x < 2 ^ Lib.bitLenAux f x
  | 0, x, h => by simpa [Lib.bitLenAux] using h
  | f + 1, x, h => by
    rw [Nat.pow_succ] at h
    have := aux_lt f (x / 2) (by omega)
    simp only [Lib.bitLenAux]
    split
    · simp_all
    · rw [Nat.add_comm, Nat.pow_succ]
      omega
theorem bitLen_64 (u : Nat) : Lib.bitLen u ≤ 64 := aux_le 64 u
theorem bitLen_lt {u : Nat} (h : u < 18446744073709551616) : u < 2 ^ Lib.bitLen u := aux_lt 64 u (by simpa using h)

/-- The digits less one that the library reckons with, its table unasked. -/
def nd0 (u : Nat) : Nat := Lib.l10 (Lib.bitLen u)
theorem nd0_le (u : Nat) : nd0 u ≤ 19 := (l10_fin ⟨_, Nat.lt_succ_of_le (bitLen_64 u)⟩).1
theorem nd0_pow {u : Nat} (h : u < 18446744073709551616) : u < 10 ^ (nd0 u + 1) := Nat.lt_of_lt_of_le (bitLen_lt h) (l10_fin ⟨_, Nat.lt_succ_of_le (bitLen_64 u)⟩).2

/-- The library's table of powers holds the numbers T. -/
def TabT (T : Nat → Nat) (w : World) : Prop := 1 < w.heap.size ∧ ∀ j, j < 20 → w.cell? ⟨1, j, none⟩ = some (.int .u64 (T j : Int))
theorem TabT.below {T : Nat → Nat} {w w' : World} {B : Nat} (h : TabT T w) (hB : 1 < B) (hb : Below B w w') : TabT T w' :=
  ⟨Nat.lt_of_lt_of_le h.1 hb.size, fun j hj => (hb.cell (p := ⟨1, j, none⟩) hB).trans (h.2 j hj)⟩

def ndT (T : Nat → Nat) (u : Nat) : Nat := nd0 u + (if T (nd0 u) ≤ u then 1 else 0)
theorem ndT_le (T : Nat → Nat) (u : Nat) : ndT T u ≤ 20 := by
  have := nd0_le u
  unfold ndT
  split <;> omega
theorem ndT_pow {T : Nat → Nat} {u : Nat} (h : u < 18446744073709551616) : u < 10 ^ (ndT T u + 1) := by
  refine Nat.lt_of_lt_of_le (nd0_pow h) (Nat.pow_le_pow_right (by omega) ?_)
  unfold ndT
  omega

theorem numDigits_any {T : Nat → Nat} {w : World} {u : Nat} (ht : TabT T w) (h2 : u < 18446744073709551616) :
    Calls Tryd.prog 56 #[.int .u64 (u : Int)] w fun e w' => e = .returned (.int .i64 (ndT T u : Int)) ∧ w = w' := by
  have hb := bitLen_64 u
  have hn := nd0_le u
  have c1 := ht.2 (nd0 u) (by omega)
  have HN : Hid (ndT T u = nd0 u + (if T (nd0 u) ≤ u then 1 else 0)) := rfl
  have H60 := Lib.hid (len64_any (u : Int) w (by omega) (by omega))
  rw [Int.toNat_natCast] at H60
  have H59 := Lib.hid (log10_any (Lib.bitLen u) hb w)
  obtain ⟨b, hbe⟩ : ∃ b, b = Lib.bitLen u := ⟨_, rfl⟩
  have e0 : nd0 u = Lib.l10 (Lib.bitLen u) := rfl
  rw [← hbe] at H60 H59 e0 hb
  rw [← e0] at H59
  obtain ⟨n, hne⟩ : ∃ n, n = nd0 u := ⟨_, rfl⟩
  rw [← hne] at H59 c1 HN hn
  clear e0 hne hbe ht
  by_cases hle : T n ≤ u
  · have HN2 := HN.out
    rw [if_pos hle] at HN2
    have HN := Lib.hid HN2
    clear HN2
    go_enter Tryd.func56, Tryd.ntmps56
    go_wp2_with (first
      | (go_at_call 60; refine H60.out.mono ?_; rintro e w' ⟨rfl, rfl⟩)
      | (go_at_call 59; refine H59.out.mono ?_; rintro e w' ⟨rfl, rfl⟩)
      | (go_at_call 61; refine (bool2_any _ _).mono ?_; rintro e w' ⟨rfl, rfl⟩))
    go_ret
    exact ⟨by rw [HN.out]; simp, rfl⟩
  · have HN2 := HN.out
    rw [if_neg hle] at HN2
    have HN := Lib.hid HN2
    clear HN2
    go_enter Tryd.func56, Tryd.ntmps56
    go_wp2_with (first
      | (go_at_call 60; refine H60.out.mono ?_; rintro e w' ⟨rfl, rfl⟩)
      | (go_at_call 59; refine H59.out.mono ?_; rintro e w' ⟨rfl, rfl⟩)
      | (go_at_call 61; refine (bool2_any _ _).mono ?_; rintro e w' ⟨rfl, rfl⟩))
    go_ret
    exact ⟨by rw [HN.out]; simp, rfl⟩
end YtflmfppigpeiaaaDoor
end Go.Proofs
