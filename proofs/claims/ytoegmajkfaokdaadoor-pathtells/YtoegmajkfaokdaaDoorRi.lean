/- A path as it lies; path.Right and the reference's. -/
import Derived.Test.YtoegmajkfaokdaaDoorZ
import Derived.Test.YtoegmajkfaokdaaDoorZs
namespace Go.Proofs.YtoegmajkfaokdaaDoor
open Go.RowKit

/-- A slice of ints that may be asked, as it lies. -/
structure PL (w : World) (A : Option Addr) (c : Nat) (l : List Int) : Prop where
  zs : Zs w w.heap.size A l
  nil : A = none → c = 0
  cap : l.length ≤ c
  wide : WideZ l
theorem PL.on {w w' : World} {A : Option Addr} {c : Nat} {zs : List Int} (h : PL w A c zs) (hb : Below w.heap.size w w') : PL w' A c zs :=
  ⟨(h.zs.below hb).more hb.size, h.nil, h.cap, h.wide⟩
theorem pl_nil (w : World) : PL w none 0 [] := ⟨fun h => absurd h (by simp), fun _ => rfl, by simp, fun _ h => by simp at h⟩
theorem ZRow.pl {w : World} {B : Nat} {v : Value} {zs : List Int} (h : ZRow w B v zs) (hw : WideZ zs) : ∃ A c, v = .slice A zs.length c ∧ PL w A c zs := by
  obtain ⟨A, c, hv, hz⟩ := h.zs
  have h0 : w.ownsRow B 3 1 v zs.length (zCellsOf zs) := h
  subst hv
  refine ⟨A, c, rfl, hz, ?_, ?_, hw⟩
  · rcases h0.2 with ⟨hx, _⟩ | ⟨g, cap, cur, hx, _⟩
    · injection hx with _ _ h3; intro _; exact h3
    · injection hx with h1 _ _; intro e; rw [e] at h1; cases h1
  · rcases h0.2 with ⟨hx, he⟩ | ⟨g, cap, cur, hx, _, _, hle, _⟩
    · omega
    · injection hx with _ _ h3; omega

theorem take_snoc {α : Type} {l : List α} {m : Nat} {x : α} (h : l[m]? = some x) : l.take (m + 1) = l.take m ++ [x] := by rw [List.take_add_one, h]; rfl
/-- All of the first m are in reach. -/
def OkTo (zs : List Int) (m : Nat) : Prop := ∀ z ∈ zs.take m, 0 ≤ z ∧ z ≤ 1048576
theorem okTo_step {zs : List Int} {m : Nat} {z : Int} (h : OkTo zs m) (hx : zs[m]? = some z) (h0 : 0 ≤ z) (h1 : z ≤ 1048576) : OkTo zs (m + 1) := fun y hy => by
  rw [take_snoc hx] at hy
  rcases List.mem_append.1 hy with h' | h'
  · exact h y h'
  · simp at h'; subst h'; exact ⟨h0, h1⟩
def RiRel (w : World) (zs : List Int) (k : Nat) (i : Value) (wr : World) : Prop := ∃ m, m + k = zs.length ∧ i = .int .i64 (m : Int) ∧ OkTo zs m ∧ w = wr

set_option maxRecDepth 100000 in
theorem right_any {w : World} {A : Option Addr} {c : Nat} {zs : List Int} (h : Zs w w.heap.size A zs) :
    Calls Tryd.prog 11 #[.slice A zs.length c] w fun e w' => e = .returned (.bool (decide (PathOk zs))) ∧ w = w' := by
  have HZ := Lib.hid h
  clear h
  by_cases hl : 6 < zs.length
  · have HD : Hid (decide (PathOk zs) = false) := decide_eq_false fun h => by have := h.1; omega
    go_enter Tryd.func11, Tryd.ntmps11
    go_wp2_with fail
    go_ret
    exact ⟨by rw [HD.out] <;> rfl, rfl⟩
  · go_enter Tryd.func11, Tryd.ntmps11
    go_wp2_with fail
    go_loopg [10] zs.length (fun k i wr => RiRel w zs k i wr)
    case atStart => exact ⟨0, by simp, rfl, fun z hz => by simp at hz, rfl⟩
    case round =>
      obtain ⟨m, hmk, hi, hok, hw⟩ := hrel
      subst hi hw
      have HO := Lib.hid hok
      clear hok
      cases gk with
      | zero =>
        have hge : zs.length ≤ m := by omega
        have HD : Hid (decide (PathOk zs) = true) := decide_eq_true ⟨by omega, fun z hz => HO.out z (by rw [List.take_of_length_le hge]; exact hz)⟩
        go_wp2_with fail
        go_ret
        exact ⟨by rw [HD.out] <;> rfl, rfl⟩
      | succ j =>
        have hm : m < zs.length := by omega
        obtain ⟨z, hx⟩ : ∃ x, zs[m]? = some x := ⟨_, List.getElem?_eq_getElem hm⟩
        obtain ⟨b, o, rfl, hlt, hcells⟩ := HZ.out (by omega)
        have c1 := hcells m z hx
        have HM := Lib.hid hmk
        have HX := Lib.hid hx
        clear hcells hx hmk
        by_cases h0 : z < 0
        · have HD : Hid (decide (PathOk zs) = false) := decide_eq_false fun h => by have := h.2 z (List.mem_of_getElem? HX.out); omega
          go_wp2_with fail
          go_ret
          exact ⟨by rw [HD.out] <;> rfl, rfl⟩
        · by_cases h1 : 1048576 < z
          · have HD : Hid (decide (PathOk zs) = false) := decide_eq_false fun h => by have := h.2 z (List.mem_of_getElem? HX.out); omega
            go_wp2_with fail
            go_ret
            exact ⟨by rw [HD.out] <;> rfl, rfl⟩
          · have HS := Lib.hid (okTo_step HO.out HX.out (by omega) (by omega))
            go_wp2_with fail
            go_roundg j
            case measure => omega
            case rel => exact ⟨m + 1, by have := HM.out; omega, by go_num, HS.out, rfl⟩

set_option maxRecDepth 100000 in
theorem refRight_any {w : World} {A : Option Addr} {c : Nat} {zs : List Int} (h : Zs w w.heap.size A zs) (hn : zs.length ≤ 1000000) :
    Calls Tryd.prog 12 #[.slice A zs.length c] w fun e w' => e = .returned (.bool (decide (PathOk zs))) ∧ w = w' := by
  have HZ := Lib.hid h
  clear h
  go_enter Tryd.func12, Tryd.ntmps12
  go_wp2_with fail
  go_loopg [7] zs.length (fun k i wr => RiRel w zs k i wr)
  case atStart => exact ⟨0, by simp, rfl, fun z hz => by simp at hz, rfl⟩
  case round =>
    obtain ⟨m, hmk, hi, hok, hw⟩ := hrel
    subst hi hw
    have HO := Lib.hid hok
    clear hok
    cases gk with
    | zero =>
      have hge : zs.length ≤ m := by omega
      have HD : Hid (decide (PathOk zs) = decide ((zs.length : Int) ≤ 6)) := by
        unfold Hid
        refine decide_eq_decide.2 ⟨fun h => by have := h.1; omega, fun h => ⟨by omega, fun z hz => HO.out z (by rw [List.take_of_length_le hge]; exact hz)⟩⟩
      go_wp2_with fail
      go_ret
      exact ⟨by rw [HD.out] <;> rfl, rfl⟩
    | succ j =>
      have hm : m < zs.length := by omega
      obtain ⟨z, hx⟩ : ∃ x, zs[m]? = some x := ⟨_, List.getElem?_eq_getElem hm⟩
      obtain ⟨b, o, rfl, hlt, hcells⟩ := HZ.out (by omega)
      have c1 := hcells m z hx
      have HM := Lib.hid hmk
      have HX := Lib.hid hx
      clear hcells hx hmk
      by_cases h0 : z < 0
      · have HD : Hid (decide (PathOk zs) = false) := decide_eq_false fun h => by have := h.2 z (List.mem_of_getElem? HX.out); omega
        go_wp2_with fail
        go_ret
        exact ⟨by rw [HD.out] <;> rfl, rfl⟩
      · by_cases h1 : 1048576 < z
        · have HD : Hid (decide (PathOk zs) = false) := decide_eq_false fun h => by have := h.2 z (List.mem_of_getElem? HX.out); omega
          go_wp2_with fail
          go_ret
          exact ⟨by rw [HD.out] <;> rfl, rfl⟩
        · have HS := Lib.hid (okTo_step HO.out HX.out (by omega) (by omega))
          go_wp2_with fail
          go_roundg j
          case measure => omega
          case rel => exact ⟨m + 1, by have := HM.out; omega, by go_num, HS.out, rfl⟩
end Go.Proofs.YtoegmajkfaokdaaDoor
