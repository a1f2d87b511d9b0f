/- The law's helper 'long'. -/
import Derived.Test.YtglidfmgechneaaGreatDoorOa
namespace Go.Proofs.YtglidfmgechneaaGreatDoor
open Go.RowKit

/-- A list that the laws ask about. -/
def ShortS (l : List (List UInt8)) : Prop := l.length ≤ 30 ∧ ∀ x ∈ l, x.length ≤ 100
instance (l : List (List UInt8)) : Decidable (ShortS l) := by unfold ShortS; infer_instance
def LoRel (w : World) (l : List (List UInt8)) (k : Nat) (i : Value) (wr : World) : Prop :=
  ∃ m, m + k = l.length ∧ i = .int .i64 (m : Int) ∧ (∀ x ∈ l.take m, x.length ≤ 100) ∧ w = wr

set_option maxRecDepth 100000 in
theorem long_any {w : World} {A : Option Addr} {c : Nat} {l : List (List UInt8)} (hl : Strs w w.heap.size A l) (hx : ∀ x ∈ l, x.length ≤ maxLen) (hn : l.length ≤ maxLen) :
    Calls Tryz.prog 8 #[.slice A l.length c] w fun e w' => e = .returned (.bool (decide (¬ ShortS l))) ∧ w = w' := by
  have HL := Lib.hid hl
  have HXX := Lib.hid hx
  clear hl hx
  unfold maxLen at hn HXX
  by_cases h30 : 30 < l.length
  · have HD : Hid (decide (¬ ShortS l) = true) := decide_eq_true fun h => by have := h.1; omega
    go_enter Tryz.func8, Tryz.ntmps8
    go_wp2_with fail
    go_ret
    exact ⟨by rw [HD.out] <;> rfl, rfl⟩
  have h30' : l.length ≤ 30 := by omega
  clear h30
  go_enter Tryz.func8, Tryz.ntmps8
  go_wp2_with fail
  go_loopg [10] l.length (fun k i wr => LoRel w l k i wr)
  case atStart => exact ⟨0, by simp, rfl, by simp, rfl⟩
  case round =>
    obtain ⟨m, hmk, hi, hno, hw⟩ := hrel
    subst hi hw
    have HN := Lib.hid hno
    clear hno
    cases gk with
    | zero =>
      have hge : l.length ≤ m := by omega
      have HD : Hid (decide (¬ ShortS l) = false) := decide_eq_false fun h => h ⟨h30', by have := HN.out; rwa [List.take_of_length_le hge] at this⟩
      go_wp2_with fail
      go_ret
      exact ⟨by rw [HD.out] <;> rfl, rfl⟩
    | succ j =>
      have hm : m < l.length := by omega
      obtain ⟨t, hx⟩ : ∃ x, l[m]? = some x := ⟨_, List.getElem?_eq_getElem hm⟩
      obtain ⟨b, o, rfl, hlt, hcells⟩ := HL.out (by omega)
      have c1 := hcells m t hx
      have HM := Lib.hid hmk
      have HX := Lib.hid hx
      have hts : (str t).size = t.length := str_size t
      have htm : t.length ≤ 9223372036854775807 := by
        have := HXX.out _ (List.mem_of_getElem? hx)
        omega
      by_cases ht : 100 < t.length
      · have HD : Hid (decide (¬ ShortS l) = true) := decide_eq_true fun h => by
          have := h.2 _ (List.mem_of_getElem? HX.out)
          omega
        clear hcells hx hmk
        go_wp2_with fail
        go_ret
        exact ⟨by rw [HD.out] <;> rfl, rfl⟩
      · have HN2 : Hid (∀ x ∈ l.take (m + 1), x.length ≤ 100) := take_all HX.out HN.out (by omega)
        clear hcells hx hmk
        go_wp2_with fail
        go_roundg j
        case measure => omega
        case rel => exact ⟨m + 1, by have := HM.out; omega, by go_num, HN2.out, rfl⟩
end Go.Proofs.YtglidfmgechneaaGreatDoor
