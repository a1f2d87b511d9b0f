/- The reference: Num at numbers from 0 on, Fits, Text. -/
import Derived.Test.YtkjenigpheppjaaDoorG
import Derived.Laws.Concat
namespace Go.Proofs.YtkjenigpheppjaaDoor
open Go.RowKit

def digStr : ByteArray := ⟨#[48, 49, 50, 51, 52, 53, 54, 55, 56, 57]⟩
theorem dig_slice_fin : ∀ d : Fin 10, digStr.extract d.val (d.val + 1) = str [UInt8.ofNat (48 + d.val)] := by decide +kernel
theorem dig_slice {d : Nat} (h : d < 10) (W : World) : (Instr.slice 9 (.string ⟨#[48, 49, 50, 51, 52, 53, 54, 55, 56, 57]⟩) (some (.int .i64 (d : Int))) (some (.int .i64 ((d : Int) + 1))) none).run Tryd.prog W = .ok (.string (str [UInt8.ofNat (48 + d)])) W := by
  have e := run_slice_string (P := Tryd.prog) W 9 digStr .i64 .i64 (d : Int) ((d : Int) + 1) Tryd.underlying9 (by omega) (by omega) (by show (d : Int) + 1 ≤ 10; omega)
  have e1 : ((d : Int) + 1).toNat = d + 1 := by omega
  rw [Int.toNat_natCast, e1, dig_slice_fin ⟨d, h⟩] at e
  exact e
theorem str_add (a b : List UInt8) (h : a.length + b.length ≤ 100000) (W : World) : (Op.stringOp .add (str a) (str b)).run Tryd.prog W = .ok (.string (str (a ++ b))) W := by
  rw [run_string_add_sum W _ _ (by rw [str_size, str_size]; omega), str_append]

theorem dec_big {v : Nat} (h : 10 ≤ v) : Lib.decDigits v = Lib.decDigits (v / 10) ++ [UInt8.ofNat (48 + v % 10)] := by
  rw [Lib.decDigits, dif_neg (by omega)]

def NumRel (u : Nat) (w : World) (k : Nat) (a s : Value) (wr : World) : Prop :=
  ∃ (v : Nat) (r : List UInt8), v = k ∧ v ≤ 1048576 ∧ a = .int .i64 (v : Int) ∧ s = .string (str r) ∧ Lib.decDigits v ++ r = Lib.decDigits u ∧ w = wr

set_option maxRecDepth 100000 in
theorem num_any {u : Nat} (h : u ≤ 1048576) (w : World) : Calls Tryd.prog 39 #[.int .i64 (u : Int)] w fun e w' => e = .returned (.string (str (Lib.decDigits u))) ∧ w = w' := by
  have HL := Lib.hid (dec_len7 h)
  go_enter Tryd.func39, Tryd.ntmps39
  go_wp2_with fail
  go_loopg [0, 4] u (fun k a s wr => NumRel u w k a s wr)
  case atStart => exact ⟨u, [], rfl, h, rfl, rfl, by simp, rfl⟩
  case round =>
    obtain ⟨v, r, hk, hv, ha, hs, hd, hw⟩ := hrel
    subst hk ha hs hw
    have hlen : (Lib.decDigits v).length + r.length ≤ 7 := by
      have := HL.out
      rw [← hd, List.length_append] at this
      exact this
    have hp := dec_pos v
    by_cases h10 : v < 10
    · have q1 := dig_slice h10
      have q2 := str_add [UInt8.ofNat (48 + v)] r (by simp; omega)
      have HD : Hid ([UInt8.ofNat (48 + v)] ++ r = Lib.decDigits u) := by rw [← hd, Lib.decDigits_one h10]; exact rfl
      obtain ⟨c, hc⟩ : ∃ c, c = str [UInt8.ofNat (48 + v)] := ⟨_, rfl⟩
      rw [← hc] at q1 q2
      rw [HD.out] at q2
      clear hc hd hlen hp
      go_wp2_with fail
      go_ret
      exact ⟨rfl, rfl⟩
    · have hge : 10 ≤ v := by omega
      obtain ⟨d, hde⟩ : ∃ d, d = v % 10 := ⟨_, rfl⟩
      obtain ⟨q, hqe⟩ : ∃ q, q = v / 10 := ⟨_, rfl⟩
      have hd10 : d < 10 := by omega
      have hql : q < v := by omega
      have e1 : (v : Int) % 10 = (d : Int) := by omega
      have e2 : (v : Int) / 10 = (q : Int) := by omega
      have e3 : Int.tmod (v : Int) 10 = (d : Int) := by rw [Int.tmod_eq_emod_of_nonneg (by omega)]; exact e1
      have e4 : Int.tdiv (v : Int) 10 = (q : Int) := by rw [Int.tdiv_eq_ediv_of_nonneg (by omega)]; exact e2
      have q1 := dig_slice hd10
      have q2 := str_add [UInt8.ofNat (48 + d)] r (by simp; omega)
      have HD : Hid (Lib.decDigits q ++ ([UInt8.ofNat (48 + d)] ++ r) = Lib.decDigits u) := by
        rw [Hid, ← hd, dec_big hge, ← hde, ← hqe, List.append_assoc]
      obtain ⟨c, hc⟩ : ∃ c, c = str [UInt8.ofNat (48 + d)] := ⟨_, rfl⟩
      obtain ⟨r2, hr2⟩ : ∃ r2, r2 = [UInt8.ofNat (48 + d)] ++ r := ⟨_, rfl⟩
      rw [← hc, ← hr2] at q2
      rw [← hc] at q1
      rw [← hr2] at HD
      clear hc hr2 hd hlen hp hde hqe h10
      go_wp2_with fail
      go_roundg q
      case measure => omega
      case rel => exact ⟨q, r2, rfl, by omega, rfl, rfl, HD.out, rfl⟩

theorem num26_any {u : Nat} (h : u ≤ 1048576) (w : World) : Calls Tryd.prog 26 #[.int .i64 (u : Int)] w fun e w' => e = .returned (.string (str (Lib.decDigits u))) ∧ w = w' := by
  have H := Lib.hid (num_any h w)
  go_enter Tryd.func26, Tryd.ntmps26
  go_wp2_with (go_at_call 39; refine H.out.mono ?_; rintro e w' ⟨rfl, rfl⟩)
  go_ret
  exact ⟨rfl, rfl⟩
end Go.Proofs.YtkjenigpheppjaaDoor
