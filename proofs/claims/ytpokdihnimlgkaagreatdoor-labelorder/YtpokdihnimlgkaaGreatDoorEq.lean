/- slices.Equal at labels, label.Same. -/
import Derived.Test.YtpokdihnimlgkaaGreatDoorLa
namespace Go.Proofs.YtpokdihnimlgkaaGreatDoor
open Go.RowKit

def EqRel (w : World) (l l' : List Ent) (k : Nat) (i : Value) (wr : World) : Prop :=
  ∃ m, m + k = l.length ∧ i = .int .i64 (m : Int) ∧ l.take m = l'.take m ∧ Below w.heap.size w wr
theorem take_step {l l' : List Ent} {m : Nat} {x : Ent} (h : l.take m = l'.take m) (h1 : l[m]? = some x) (h2 : l'[m]? = some x) : l.take (m + 1) = l'.take (m + 1) := by
  rw [List.take_add_one, List.take_add_one, h, h1, h2]

set_option maxRecDepth 100000 in
theorem equal_any {w : World} {A A' : Option Addr} {c c' : Nat} {l l' : List Ent} (h : Ents w w.heap.size A l) (h' : Ents w w.heap.size A' l') (hn : l.length ≤ 1000000) :
    Calls Tryz.prog 47 #[.slice A l.length c, .slice A' l'.length c'] w (RetB w (.bool (decide (l = l')))) := by
  have HL := Lib.hid h
  have HL' := Lib.hid h'
  clear h h'
  by_cases hlen : l.length = l'.length
  · rw [← hlen]
    have HLEN := Lib.hid hlen
    clear hlen
    go_enter Tryz.func47, Tryz.ntmps47
    go_wp2_with fail
    go_loopg [13] l.length (fun k i wr => EqRel w l l' k i wr)
    case atStart => exact ⟨0, by simp, rfl, by simp, Below.refl _ _⟩
    case round =>
      obtain ⟨m, hmk, hi, htk, hb⟩ := hrel
      subst hi
      have HB := Lib.hid hb
      have HT := Lib.hid htk
      cases gk with
      | zero =>
        have hge : l.length ≤ m := by omega
        have HD : Hid (decide (l = l') = true) := decide_eq_true (by
          have h1 := HT.out
          have h2 := HLEN.out
          rwa [List.take_of_length_le hge, List.take_of_length_le (by omega)] at h1)
        clear htk hb
        go_wp2_with fail
        go_ret
        exact ⟨by rw [HD.out]; rfl, HB.out⟩
      | succ j =>
        have hm : m < l.length := by omega
        have hm' : m < l'.length := by have := HLEN.out; omega
        obtain ⟨⟨t, n⟩, hx⟩ : ∃ x, l[m]? = some x := ⟨_, List.getElem?_eq_getElem hm⟩
        obtain ⟨⟨t', n'⟩, hx'⟩ : ∃ x, l'[m]? = some x := ⟨_, List.getElem?_eq_getElem hm'⟩
        obtain ⟨b, o, rfl, hlt, hcells⟩ := (HL.out.below hb) (by omega)
        obtain ⟨b', o', rfl, hlt', hcells'⟩ := (HL'.out.below hb) (by omega)
        obtain ⟨c1, c2⟩ := hcells m t n hx
        obtain ⟨c3, c4⟩ := hcells' m t' n' hx'
        have HM := Lib.hid hmk
        have HX := Lib.hid hx
        have HX' := Lib.hid hx'
        by_cases he : t = t'
        · have hq := str_same he
          by_cases hz : n = n'
          · have HN : Hid (l.take (m + 1) = l'.take (m + 1)) := take_step HT.out HX.out (by rw [HX'.out, he, hz])
            have hz2 : ((n : Int) == (n' : Int)) = true := by simpa using hz
            clear hcells hcells' hx hx' hmk htk hb he hz hm'
            go_wp2_with fail
            go_region
            go_wp2_with fail
            go_roundg j
            case measure => omega
            case rel => exact ⟨m + 1, by have := HM.out; omega, by go_num, HN.out, HB.out.drew⟩
          · have hz2 : ((n : Int) == (n' : Int)) = false := by simpa using hz
            have HD : Hid (decide (l = l') = false) := decide_eq_false fun e => by
              have h1 := HX.out
              rw [e, HX'.out] at h1
              simp only [Option.some.injEq, Prod.mk.injEq] at h1
              exact hz h1.2.symm
            clear hcells hcells' hx hx' hmk htk hb he hz hm'
            go_wp2_with fail
            go_region
            go_wp2_with fail
            go_ret
            exact ⟨by rw [HD.out]; rfl, HB.out.drew⟩
        · have hq := str_differs he
          have HD : Hid (decide (l = l') = false) := decide_eq_false fun e => by
            have h1 := HX.out
            rw [e, HX'.out] at h1
            simp only [Option.some.injEq, Prod.mk.injEq] at h1
            exact he h1.1.symm
          clear hcells hcells' hx hx' hmk htk hb he hm'
          go_wp2_with fail
          go_region
          go_wp2_with fail
          go_ret
          exact ⟨by rw [HD.out]; rfl, HB.out.drew⟩
  · have HD : Hid (decide (l = l') = false) := decide_eq_false fun e => hlen (by rw [e])
    have hne : ((l.length : Int) == (l'.length : Int)) = false := by simpa using (fun h => hlen (by omega))
    clear hlen
    go_enter Tryz.func47, Tryz.ntmps47
    go_wp2_with fail
    go_ret
    exact ⟨by rw [HD.out]; rfl, Below.refl _ _⟩
end Go.Proofs.YtpokdihnimlgkaaGreatDoor
