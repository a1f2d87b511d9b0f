/- slices.Index, Contains and Equal at strings; owns.Has. -/
import Derived.Test.YtglidfmgechneaaGreatDoorLa
import Derived.Test.YtglidfmgechneaaGreatDoorOm
namespace Go.Proofs.YtglidfmgechneaaGreatDoor
open Go.RowKit

/-- A slice of strings that may be asked, as it lies. -/
structure SL (w : World) (A : Option Addr) (c : Nat) (l : List (List UInt8)) : Prop where
  strs : Strs w w.heap.size A l
  nil : A = none → c = 0
  txt : ∀ x ∈ l, x.length ≤ 140737488351232
  len : l.length ≤ 1000000
theorem SL.on {w w' : World} {A : Option Addr} {c : Nat} {l : List (List UInt8)} (h : SL w A c l) (hb : Below w.heap.size w w') : SL w' A c l :=
  ⟨(h.strs.below hb).more hb.size, h.nil, h.txt, h.len⟩
theorem Strs.none {w : World} {B : Nat} {l : List (List UInt8)} (h : Strs w B none l) : l = [] := by
  cases l with
  | nil => rfl
  | cons x r => obtain ⟨b, o, hA, _⟩ := h (by simp); cases hA
theorem sl_nil (w : World) : SL w none 0 [] := ⟨fun h => absurd h (by simp), fun _ => rfl, by simp, by simp⟩

def IxRel (w : World) (l : List (List UInt8)) (s : List UInt8) (k : Nat) (i : Value) (wr : World) : Prop :=
  ∃ m, m + k = l.length ∧ i = .int .i64 (m : Int) ∧ (∀ y ∈ l.take m, ¬ y = s) ∧ w = wr

set_option maxRecDepth 100000 in
theorem index_any {w : World} {A : Option Addr} {c : Nat} {l : List (List UInt8)} {s : List UInt8} (hl : Strs w w.heap.size A l) (hn : l.length ≤ 1000000) :
    Calls Tryz.prog 70 #[.slice A l.length c, .string (str s)] w fun e w' => ∃ z : Int, e = .returned (.int .i64 z) ∧ (z = -1 ∧ ¬ s ∈ l ∨ 0 ≤ z ∧ s ∈ l) ∧ w = w' := by
  have HL := Lib.hid hl
  clear hl
  go_enter Tryz.func70, Tryz.ntmps70
  go_wp2_with fail
  go_loopg [8] l.length (fun k i wr => IxRel w l s k i wr)
  case atStart => exact ⟨0, by simp, rfl, by simp, rfl⟩
  case round =>
    obtain ⟨m, hmk, hi, hno, hw⟩ := hrel
    subst hi hw
    have HN := Lib.hid hno
    clear hno
    cases gk with
    | zero =>
      have hge : l.length ≤ m := by omega
      have HD : Hid (¬ s ∈ l) := fun h => by
        have := HN.out
        rw [List.take_of_length_le hge] at this
        exact this s h rfl
      go_wp2_with fail
      go_ret
      exact ⟨-1, rfl, .inl ⟨rfl, HD.out⟩, rfl⟩
    | succ j =>
      have hm : m < l.length := by omega
      obtain ⟨x, hx⟩ : ∃ x, l[m]? = some x := ⟨_, List.getElem?_eq_getElem hm⟩
      obtain ⟨b, o, rfl, hlt, hcells⟩ := HL.out (by omega)
      have cx := hcells m x hx
      have HM := Lib.hid hmk
      have HX := Lib.hid hx
      clear hcells hx hmk
      by_cases he : s = x
      · have hq := str_same he
        have HD : Hid (s ∈ l) := by rw [he]; exact List.mem_of_getElem? HX.out
        clear he
        go_wp2_with fail
        go_ret
        exact ⟨_, rfl, .inr ⟨by omega, HD.out⟩, rfl⟩
      · have hq := str_differs he
        have HN2 : Hid (∀ y ∈ l.take (m + 1), ¬ y = s) := take_all HX.out HN.out fun h => he h.symm
        clear he
        go_wp2_with fail
        go_roundg j
        case measure => omega
        case rel => exact ⟨m + 1, by have := HM.out; omega, by go_num, HN2.out, rfl⟩

theorem contains_any {w : World} {A : Option Addr} {c : Nat} {l : List (List UInt8)} {s : List UInt8} (hl : Strs w w.heap.size A l) (hn : l.length ≤ 1000000) :
    Calls Tryz.prog 45 #[.slice A l.length c, .string (str s)] w fun e w' => e = .returned (.bool (decide (s ∈ l))) ∧ w = w' := by
  have H := Lib.hid (index_any (c := c) (s := s) hl hn)
  clear hl
  go_enter Tryz.func45, Tryz.ntmps45
  go_wp2_with fail
  refine H.out.mono ?_
  rintro e w1 ⟨z, rfl, hz, rfl⟩
  rcases hz with ⟨rfl, hz⟩ | ⟨h0, hz⟩
  · have HD : Hid (decide (s ∈ l) = false) := decide_eq_false hz
    clear hz
    go_wp2_with fail
    go_ret
    exact ⟨by rw [HD.out] <;> rfl, rfl⟩
  · have HD : Hid (decide (s ∈ l) = true) := decide_eq_true hz
    clear hz
    go_wp2_with fail
    go_ret
    exact ⟨by rw [HD.out] <;> rfl, rfl⟩

theorem has_any {w : World} {A : Option Addr} {c : Nat} {l : List (List UInt8)} {s : List UInt8} (hl : Strs w w.heap.size A l) (hn : l.length ≤ 1000000) :
    Calls Tryz.prog 18 #[.slice A l.length c, .string (str s)] w fun e w' => e = .returned (.bool (decide (s ∈ l))) ∧ w = w' := by
  have H := Lib.hid (contains_any (c := c) (s := s) hl hn)
  clear hl
  go_enter Tryz.func18, Tryz.ntmps18
  go_wp2_with fail
  refine H.out.mono ?_
  rintro e w1 ⟨rfl, rfl⟩
  go_wp2_with fail
  go_ret
  exact ⟨rfl, rfl⟩

def EqSRel (w : World) (l l' : List (List UInt8)) (k : Nat) (i : Value) (wr : World) : Prop :=
  ∃ m, m + k = l.length ∧ i = .int .i64 (m : Int) ∧ l.take m = l'.take m ∧ Below w.heap.size w wr

set_option maxRecDepth 100000 in
theorem equalS_any {w : World} {A A' : Option Addr} {c c' : Nat} {l l' : List (List UInt8)} (h : Strs w w.heap.size A l) (h' : Strs w w.heap.size A' l') (hn : l.length ≤ 1000000) :
    Calls Tryz.prog 43 #[.slice A l.length c, .slice A' l'.length c'] w (RetB w (.bool (decide (l = l')))) := by
  have HL := Lib.hid h
  have HL' := Lib.hid h'
  clear h h'
  by_cases hlen : l.length = l'.length
  · rw [← hlen]
    have HLEN := Lib.hid hlen
    clear hlen
    go_enter Tryz.func43, Tryz.ntmps43
    go_wp2_with fail
    go_loopg [13] l.length (fun k i wr => EqSRel w l l' k i wr)
    case atStart => exact ⟨0, by simp, rfl, by simp, Below.refl _ _⟩
    case round =>
      obtain ⟨m, hmk, hi, htk, hb⟩ := hrel
      subst hi
      have HB := Lib.hid hb
      have HT := Lib.hid htk
      cases gk with
      | zero =>
        have hge : l.length ≤ m := by omega
        have HD : Hid (decide (l = l') = true) := decide_eq_true (by
          have h1 := HT.out
          have h2 := HLEN.out
          rwa [List.take_of_length_le hge, List.take_of_length_le (by omega)] at h1)
        clear htk hb
        go_wp2_with fail
        go_ret
        exact ⟨by rw [HD.out] <;> rfl, HB.out⟩
      | succ j =>
        have hm : m < l.length := by omega
        have hm' : m < l'.length := by have := HLEN.out; omega
        obtain ⟨t, hx⟩ : ∃ x, l[m]? = some x := ⟨_, List.getElem?_eq_getElem hm⟩
        obtain ⟨t', hx'⟩ : ∃ x, l'[m]? = some x := ⟨_, List.getElem?_eq_getElem hm'⟩
        obtain ⟨b, o, rfl, hlt, hcells⟩ := (HL.out.below hb) (by omega)
        obtain ⟨b', o', rfl, hlt', hcells'⟩ := (HL'.out.below hb) (by omega)
        have c1 := hcells m t hx
        have c3 := hcells' m t' hx'
        have HM := Lib.hid hmk
        have HX := Lib.hid hx
        have HX' := Lib.hid hx'
        by_cases he : t = t'
        · have hq := str_same he
          have HN : Hid (l.take (m + 1) = l'.take (m + 1)) := by
            unfold Hid
            rw [List.take_add_one, List.take_add_one, HT.out, HX.out, HX'.out, he]
          clear hcells hcells' hx hx' hmk htk hb he hm'
          go_wp2_with fail
          go_region
          go_wp2_with fail
          go_roundg j
          case measure => omega
          case rel => exact ⟨m + 1, by have := HM.out; omega, by go_num, HN.out, HB.out.drew⟩
        · have hq := str_differs he
          have HD : Hid (decide (l = l') = false) := decide_eq_false fun e => by
            have h1 := HX.out
            rw [e, HX'.out] at h1
            injection h1 with h1
            exact he h1.symm
          clear hcells hcells' hx hx' hmk htk hb he hm'
          go_wp2_with fail
          go_region
          go_wp2_with fail
          go_ret
          exact ⟨by rw [HD.out] <;> rfl, HB.out.drew⟩
  · have HD : Hid (decide (l = l') = false) := decide_eq_false fun e => hlen (by rw [e])
    have hne : ((l.length : Int) == (l'.length : Int)) = false := by simpa using (fun h => hlen (by omega))
    clear hlen
    go_enter Tryz.func43, Tryz.ntmps43
    go_wp2_with fail
    go_ret
    exact ⟨by rw [HD.out] <;> rfl, Below.refl _ _⟩
end Go.Proofs.YtglidfmgechneaaGreatDoor
