/- strings.Cut at a separator of one byte, for texts of any length that a machine holds. -/
import Derived.Test.YtkjenigpheppjaaDoorC
import Derived.Lib.CutLaws
import Derived.Lib.IndexBytes
namespace Go.Proofs.YtkjenigpheppjaaDoor
open Go.RowKit Go.Shelf

theorem indexLite_one (s : ByteArray) (c : UInt8) (w : World) : Calls Tryd.prog 44 #[.string s, .string ⟨#[c]⟩] w fun e w' => e = .returned (.int .i64 (Lib.indexB s ⟨#[c]⟩)) ∧ w = w' := by
  refine Calls.mono (show Calls Tryd.prog 44 _ _ _ from Any.stringslite_Index_one (P := Tryd.prog) (ρ := Tryd.lays145_ren) { Tryd.lays145 with } s c w) ?_
  rintro e w' ⟨rfl, rfl⟩
  refine ⟨?_, rfl⟩
  rw [show Lib.indexB s ⟨#[c]⟩ = Lib.index s.data.toList [c] from rfl, Lib.index_one]

/-- What Cut says. -/
def RetCut (s : ByteArray) (c : UInt8) (w : World) (e : Ending) (w' : World) : Prop :=
  e = .returned (.tuple #[.string ⟨(Lib.cut s.data.toList [c]).1.toArray⟩, .string ⟨(Lib.cut s.data.toList [c]).2.1.toArray⟩, .bool (Lib.cut s.data.toList [c]).2.2]) ∧ ∃ n, w' = w.drewN n

set_option maxRecDepth 100000 in
theorem cutLite_one (s : ByteArray) (c : UInt8) (hs : s.size ≤ 140737488351232) (w : World) : Calls Tryd.prog 34 #[.string s, .string ⟨#[c]⟩] w (RetCut s c w) := by
  have H := Lib.hid (indexLite_one s c w)
  rcases Lib.indexB_cases s ⟨#[c]⟩ with hix | ⟨i, hix, hroom⟩
  · have HD := Lib.hid (Lib.cutB_miss s ⟨#[c]⟩ hix)
    rw [hix] at H
    clear hix
    go_enter Tryd.func34, Tryd.ntmps34
    go_wp2_with fail
    refine H.out.mono ?_
    rintro e w' ⟨rfl, rfl⟩
    go_wp2_with fail
    go_ret3
    obtain ⟨e1, e2, e3⟩ := HD.out
    refine ⟨?_, 0, rfl⟩
    have f1 : (⟨(Lib.cut s.data.toList [c]).1.toArray⟩ : ByteArray) = s := e1
    have f2 : (⟨(Lib.cut s.data.toList [c]).2.1.toArray⟩ : ByteArray) = ByteArray.empty := e2
    have f3 : (Lib.cut s.data.toList [c]).2.2 = false := e3
    rw [f1, f2, f3]
    rfl
  · have HD := Lib.hid (Lib.cutB_hit s ⟨#[c]⟩ i hix)
    rw [hix] at H
    have hz : (⟨#[c]⟩ : ByteArray).size = 1 := rfl
    rw [hz] at hroom
    have c1 : (0 : Int) ≤ ↑i := by omega
    have c2 : (↑i : Int) ≤ ↑s.size := by omega
    have c3 : (0 : Int) ≤ ↑i + 1 := by omega
    have c4 : (↑i + 1 : Int) ≤ ↑s.size := by omega
    clear hix
    go_enter Tryd.func34, Tryd.ntmps34
    go_wp2_with fail
    refine H.out.mono ?_
    rintro e w' ⟨rfl, rfl⟩
    go_wp2_with fail
    go_region
    go_wp2_with fail
    go_ret3
    obtain ⟨e1, e2, e3⟩ := HD.out
    refine ⟨?_, 1, rfl⟩
    have f1 : (⟨(Lib.cut s.data.toList [c]).1.toArray⟩ : ByteArray) = s.extract 0 i := e1
    have f2 : (⟨(Lib.cut s.data.toList [c]).2.1.toArray⟩ : ByteArray) = s.extract (i + 1) s.size := e2
    have f3 : (Lib.cut s.data.toList [c]).2.2 = true := e3
    rw [f1, f2, f3]
    rfl

theorem cutOne (s : ByteArray) (c : UInt8) (hs : s.size ≤ 140737488351232) (w : World) : Calls Tryd.prog 18 #[.string s, .string ⟨#[c]⟩] w (RetCut s c w) := by
  have H := Lib.hid (cutLite_one s c hs w)
  go_enter Tryd.func18, Tryd.ntmps18
  go_wp2_with fail
  refine H.out.mono ?_
  rintro e w' ⟨rfl, n, rfl⟩
  go_wp2_with fail
  go_ret3
  exact ⟨rfl, n, rfl⟩
end Go.Proofs.YtkjenigpheppjaaDoor
