/- The law's helper 'long'. -/
import Derived.Test.YtpokdihnimlgkaaGreatDoorFl
namespace Go.Proofs.YtpokdihnimlgkaaGreatDoor
open Go.RowKit

/-- A label that the laws ask about. -/
def Short (l : List Ent) : Prop := l.length ≤ 30 ∧ ∀ e ∈ l, e.1.length ≤ 100
instance (l : List Ent) : Decidable (Short l) := by unfold Short; infer_instance
def LoRel (w : World) (l : List Ent) (k : Nat) (i : Value) (wr : World) : Prop :=
  ∃ m, m + k = l.length ∧ i = .int .i64 (m : Int) ∧ (∀ x ∈ l.take m, x.1.length ≤ 100) ∧ Below w.heap.size w wr

set_option maxRecDepth 100000 in
theorem long_any {w : World} {A : Option Addr} {c : Nat} {l : List Ent} (hl : Ents w w.heap.size A l) (hx : ∀ e ∈ l, e.1.length ≤ maxLen) (hn : l.length ≤ maxLen) :
    Calls Tryz.prog 8 #[.slice A l.length c] w (RetB w (.bool (decide (¬ Short l)))) := by
  have HL := Lib.hid hl
  have HXX := Lib.hid hx
  clear hl hx
  unfold maxLen at hn HXX
  by_cases h30 : 30 < l.length
  · have HD : Hid (decide (¬ Short l) = true) := decide_eq_true fun h => by have := h.1; omega
    go_enter Tryz.func8, Tryz.ntmps8
    go_wp2_with fail
    go_ret
    exact ⟨by rw [HD.out]; rfl, Below.refl _ _⟩
  have h30' : l.length ≤ 30 := by omega
  clear h30
  go_enter Tryz.func8, Tryz.ntmps8
  go_wp2_with fail
  go_loopg [10] l.length (fun k i wr => LoRel w l k i wr)
  case atStart => exact ⟨0, by simp, rfl, by simp, Below.refl _ _⟩
  case round =>
    obtain ⟨m, hmk, hi, hno, hb⟩ := hrel
    subst hi
    have HB := Lib.hid hb
    have HN := Lib.hid hno
    have hsz := hb.size
    cases gk with
    | zero =>
      have hge : l.length ≤ m := by omega
      have HD : Hid (decide (¬ Short l) = false) := decide_eq_false fun h => h ⟨h30', by have := HN.out; rwa [List.take_of_length_le hge] at this⟩
      clear hno hb
      go_wp2_with fail
      go_ret
      exact ⟨by rw [HD.out]; rfl, HB.out⟩
    | succ j =>
      have hm : m < l.length := by omega
      obtain ⟨⟨t, n⟩, hx⟩ : ∃ x, l[m]? = some x := ⟨_, List.getElem?_eq_getElem hm⟩
      obtain ⟨b, o, rfl, hlt, hcells⟩ := (HL.out.below hb) (by omega)
      obtain ⟨c1, c2⟩ := hcells m t n hx
      have hlt2 : b < wr.heap.size := by omega
      have HM := Lib.hid hmk
      have HX := Lib.hid hx
      have hts : (str t).size = t.length := str_size t
      have htm : t.length ≤ 9223372036854775807 := by
        have := HXX.out _ (List.mem_of_getElem? hx)
        simp only at this
        omega
      by_cases ht : 100 < t.length
      · have HD : Hid (decide (¬ Short l) = true) := decide_eq_true fun h => by
          have := h.2 _ (List.mem_of_getElem? HX.out)
          simp only at this
          omega
        clear hcells hx hmk hno hb
        go_wp2_with fail
        go_ret
        exact ⟨by rw [HD.out]; rfl, HB.out.alloc hsz _⟩
      · have HN2 := Lib.hid (take_no (P := fun x => x.1.length ≤ 100) HX.out HN.out (by show t.length ≤ 100; omega))
        clear hcells hx hmk hno hb
        go_wp2_with fail
        go_roundg j
        case measure => omega
        case rel => exact ⟨m + 1, by have := HM.out; omega, by go_num, HN2.out, HB.out.alloc hsz _⟩
end Go.Proofs.YtpokdihnimlgkaaGreatDoor
