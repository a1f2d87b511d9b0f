/- The reference's Num at every number. -/
import Derived.Test.YtoegmajkfaokdaaDoorH
import Derived.Lib.ItoaLen
namespace Go.Proofs.YtoegmajkfaokdaaDoor
open Go.RowKit

theorem dec_len21 {u : Nat} (h : u ≤ 9223372036854775808) : (Lib.decDigits u).length ≤ 21 := by
  have h1 := Lib.itoa_length_le (-(u : Int)) (by omega) (by omega)
  by_cases h0 : u = 0
  · subst h0
    rw [Lib.decDigits_one (by omega)]
    simp
  · unfold Lib.itoa at h1
    rw [if_pos (by omega)] at h1
    simp at h1
    omega

def NumPos (u : Nat) (w : World) (k : Nat) (a s : Value) (wr : World) : Prop :=
  ∃ (v : Nat) (r : List UInt8), v = k ∧ v ≤ 9223372036854775807 ∧ a = .int .i64 (v : Int) ∧ s = .string (str r) ∧ Lib.decDigits v ++ r = Lib.decDigits u ∧ w = wr

set_option maxRecDepth 100000 in
theorem num_pos {u : Nat} (h : u ≤ 9223372036854775807) (w : World) : Calls Tryd.prog 56 #[.int .i64 (u : Int)] w fun e w' => e = .returned (.string (str (Lib.decDigits u))) ∧ w = w' := by
  have HL := Lib.hid (dec_len21 (u := u) (by omega))
  go_enter Tryd.func56, Tryd.ntmps56
  go_wp2_with fail
  go_loopg [0, 4] u (fun k a s wr => NumPos u w k a s wr)
  case atStart => exact ⟨u, [], rfl, h, rfl, rfl, by simp, rfl⟩
  case round =>
    obtain ⟨v, r, hk, hv, ha, hs, hd, hw⟩ := hrel
    subst hk ha hs hw
    have hlen : (Lib.decDigits v).length + r.length ≤ 21 := by
      have := HL.out
      rw [← hd, List.length_append] at this
      exact this
    have hp := dec_pos v
    by_cases h10 : v < 10
    · have q1 := dig_slice h10
      have q2 := str_add [UInt8.ofNat (48 + v)] r (by simp; omega)
      have HD : Hid ([UInt8.ofNat (48 + v)] ++ r = Lib.decDigits u) := by rw [← hd, Lib.decDigits_one h10]; exact rfl
      obtain ⟨c, hc⟩ : ∃ c, c = str [UInt8.ofNat (48 + v)] := ⟨_, rfl⟩
      rw [← hc] at q1 q2
      rw [HD.out] at q2
      clear hc hd hlen hp
      go_wp2_with fail
      go_ret
      exact ⟨rfl, rfl⟩
    · have hge : 10 ≤ v := by omega
      obtain ⟨d, hde⟩ : ∃ d, d = v % 10 := ⟨_, rfl⟩
      obtain ⟨q, hqe⟩ : ∃ q, q = v / 10 := ⟨_, rfl⟩
      have hd10 : d < 10 := by omega
      have hql : q < v := by omega
      have e1 : (v : Int) % 10 = (d : Int) := by omega
      have e2 : (v : Int) / 10 = (q : Int) := by omega
      have e3 : Int.tmod (v : Int) 10 = (d : Int) := by rw [Int.tmod_eq_emod_of_nonneg (by omega)]; exact e1
      have e4 : Int.tdiv (v : Int) 10 = (q : Int) := by rw [Int.tdiv_eq_ediv_of_nonneg (by omega)]; exact e2
      have q1 := dig_slice hd10
      have q2 := str_add [UInt8.ofNat (48 + d)] r (by simp; omega)
      have HD : Hid (Lib.decDigits q ++ ([UInt8.ofNat (48 + d)] ++ r) = Lib.decDigits u) := by
        rw [Hid, ← hd, dec_big hge, ← hde, ← hqe, List.append_assoc]
      obtain ⟨c, hc⟩ : ∃ c, c = str [UInt8.ofNat (48 + d)] := ⟨_, rfl⟩
      obtain ⟨r2, hr2⟩ : ∃ r2, r2 = [UInt8.ofNat (48 + d)] ++ r := ⟨_, rfl⟩
      rw [← hc, ← hr2] at q2
      rw [← hc] at q1
      rw [← hr2] at HD
      clear hc hr2 hd hlen hp hde hqe h10
      go_wp2_with fail
      go_roundg q
      case measure => omega
      case rel => exact ⟨q, r2, rfl, by omega, rfl, rfl, HD.out, rfl⟩

def NumNeg (u : Nat) (w : World) (k : Nat) (a s : Value) (wr : World) : Prop :=
  ∃ (v : Nat) (z : Int) (r : List UInt8), v = k ∧ 1 ≤ v ∧ v ≤ 9223372036854775808 ∧ z = -(v : Int) ∧ a = .int .i64 z ∧ s = .string (str r) ∧ Lib.decDigits v ++ r = Lib.decDigits u ∧ w = wr

set_option maxRecDepth 100000 in
theorem num_neg {u : Nat} (h1 : 1 ≤ u) (h : u ≤ 9223372036854775808) (w : World) : Calls Tryd.prog 56 #[.int .i64 (-(u : Int))] w fun e w' => e = .returned (.string (str (45 :: Lib.decDigits u))) ∧ w = w' := by
  have HL := Lib.hid (dec_len21 (u := u) (by omega))
  obtain ⟨z0, hz0⟩ : ∃ z : Int, z = -(u : Int) := ⟨_, rfl⟩
  rw [← hz0]
  have hlt0 : z0 < 0 := by omega
  have HZ0 := Lib.hid hz0
  clear hz0
  go_enter Tryd.func56, Tryd.ntmps56
  go_wp2_with fail
  go_loopg [0, 3] u (fun k a s wr => NumNeg u w k a s wr)
  case atStart => exact ⟨u, z0, [], rfl, h1, h, HZ0.out, rfl, rfl, by simp, rfl⟩
  case round =>
    obtain ⟨v, z, r, hk, hv1, hv, hz, ha, hs, hd, hw⟩ := hrel
    subst hk ha hs hw
    have hlen : (Lib.decDigits v).length + r.length ≤ 21 := by
      have := HL.out
      rw [← hd, List.length_append] at this
      exact this
    have hp := dec_pos v
    have HZ := Lib.hid hz
    by_cases h10 : v < 10
    · have q1 := dig_slice h10
      have q2 := str_add [45] [UInt8.ofNat (48 + v)] (by simp)
      have q3 := str_add ([45] ++ [UInt8.ofNat (48 + v)]) r (by simp; omega)
      have HD : Hid ([45] ++ [UInt8.ofNat (48 + v)] ++ r = 45 :: Lib.decDigits u) := by rw [← hd, Lib.decDigits_one h10]; exact rfl
      have hgt : ¬ z ≤ -10 := by omega
      have n1 : -z = (v : Int) := by omega
      have q0 : str [45] = ⟨#[45]⟩ := by decide
      obtain ⟨c, hc⟩ : ∃ c, c = str [UInt8.ofNat (48 + v)] := ⟨_, rfl⟩
      obtain ⟨c2, hc2⟩ : ∃ c2, c2 = str ([45] ++ [UInt8.ofNat (48 + v)]) := ⟨_, rfl⟩
      rw [← hc] at q1 q2
      rw [← hc2] at q2 q3
      rw [q0] at q2
      rw [HD.out] at q3
      have hzb : -9 ≤ z ∧ z ≤ -1 := by omega
      clear hc hc2 hd hlen hp hz q0 h10
      go_wp2_with fail
      go_ret
      exact ⟨rfl, rfl⟩
    · have hge : 10 ≤ v := by omega
      obtain ⟨d, hde⟩ : ∃ d, d = v % 10 := ⟨_, rfl⟩
      obtain ⟨q, hqe⟩ : ∃ q, q = v / 10 := ⟨_, rfl⟩
      obtain ⟨y, hy⟩ : ∃ y : Int, y = -(d : Int) := ⟨_, rfl⟩
      obtain ⟨zq, hzq⟩ : ∃ zq : Int, zq = -(q : Int) := ⟨_, rfl⟩
      have hd10 : d < 10 := by omega
      have hql : q < v := by omega
      have e3 : Int.tmod z 10 = y := by
        rw [hz, Int.neg_tmod, Int.tmod_eq_emod_of_nonneg (by omega), hy]
        omega
      have e4 : Int.tdiv z 10 = zq := by
        rw [hz, Int.neg_tdiv, Int.tdiv_eq_ediv_of_nonneg (by omega), hzq]
        omega
      have n1 : -y = (d : Int) := by omega
      have hyb : -9 ≤ y ∧ y ≤ 0 := by omega
      have hle : z ≤ -10 := by omega
      have hzqb : -922337203685477580 ≤ zq ∧ zq ≤ 0 := by omega
      have q1 := dig_slice hd10
      have q2 := str_add [UInt8.ofNat (48 + d)] r (by simp; omega)
      have HD : Hid (Lib.decDigits q ++ ([UInt8.ofNat (48 + d)] ++ r) = Lib.decDigits u) := by
        rw [Hid, ← hd, dec_big hge, ← hde, ← hqe, List.append_assoc]
      have HQ : Hid (1 ≤ q ∧ zq = -(q : Int)) := ⟨by omega, hzq⟩
      obtain ⟨c, hc⟩ : ∃ c, c = str [UInt8.ofNat (48 + d)] := ⟨_, rfl⟩
      obtain ⟨r2, hr2⟩ : ∃ r2, r2 = [UInt8.ofNat (48 + d)] ++ r := ⟨_, rfl⟩
      rw [← hc, ← hr2] at q2
      rw [← hc] at q1
      rw [← hr2] at HD
      clear hc hr2 hd hlen hp hde hqe h10 hz hy hzq
      go_wp2_with fail
      go_roundg q
      case measure => omega
      case rel => exact ⟨q, zq, r2, rfl, HQ.out.1, by omega, HQ.out.2, rfl, rfl, HD.out, rfl⟩

theorem num_all {n : Int} (h0 : -9223372036854775808 ≤ n) (h1 : n ≤ 9223372036854775807) (w : World) : Calls Tryd.prog 36 #[.int .i64 n] w fun e w' => e = .returned (.string (str (Lib.itoa n))) ∧ w = w' := by
  have H : Hid (Calls Tryd.prog 56 #[.int .i64 n] w fun e w' => e = .returned (.string (str (Lib.itoa n))) ∧ w = w') := by
    by_cases hn : n < 0
    · have e : n = -(n.natAbs : Int) := by omega
      have := num_neg (u := n.natAbs) (by omega) (by omega) w
      rw [← e] at this
      unfold Lib.itoa
      rw [if_pos hn]
      exact this
    · have e : n = (n.toNat : Int) := by omega
      have := num_pos (u := n.toNat) (by omega) w
      rw [← e] at this
      unfold Lib.itoa
      rw [if_neg hn]
      exact this
  go_enter Tryd.func36, Tryd.ntmps36
  go_wp2_with (go_at_call 56; refine H.out.mono ?_; rintro e w' ⟨rfl, rfl⟩)
  go_ret
  exact ⟨rfl, rfl⟩
end Go.Proofs.YtoegmajkfaokdaaDoor
