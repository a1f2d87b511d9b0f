/- Digits as texts. -/
import Derived.Test.YtoegmajkfaokdaaDoorC
import Derived.Laws.Concat
namespace Go.Proofs.YtoegmajkfaokdaaDoor
open Go.RowKit

def digStr : ByteArray := ⟨#[48, 49, 50, 51, 52, 53, 54, 55, 56, 57]⟩
theorem dig_slice_fin : ∀ d : Fin 10, digStr.extract d.val (d.val + 1) = str [UInt8.ofNat (48 + d.val)] := by decide +kernel
theorem dig_slice {d : Nat} (h : d < 10) (W : World) : (Instr.slice 9 (.string ⟨#[48, 49, 50, 51, 52, 53, 54, 55, 56, 57]⟩) (some (.int .i64 (d : Int))) (some (.int .i64 ((d : Int) + 1))) none).run Tryd.prog W = .ok (.string (str [UInt8.ofNat (48 + d)])) W := by
  have e := run_slice_string (P := Tryd.prog) W 9 digStr .i64 .i64 (d : Int) ((d : Int) + 1) Tryd.underlying9 (by omega) (by omega) (by show (d : Int) + 1 ≤ 10; omega)
  have e1 : ((d : Int) + 1).toNat = d + 1 := by omega
  rw [Int.toNat_natCast, e1, dig_slice_fin ⟨d, h⟩] at e
  exact e
theorem str_add (a b : List UInt8) (h : a.length + b.length ≤ 100000) (W : World) : (Op.stringOp .add (str a) (str b)).run Tryd.prog W = .ok (.string (str (a ++ b))) W := by
  rw [run_string_add_sum W _ _ (by rw [str_size, str_size]; omega), str_append]

theorem dec_big {v : Nat} (h : 10 ≤ v) : Lib.decDigits v = Lib.decDigits (v / 10) ++ [UInt8.ofNat (48 + v % 10)] := by
  rw [Lib.decDigits, dif_neg (by omega)]
end Go.Proofs.YtoegmajkfaokdaaDoor
