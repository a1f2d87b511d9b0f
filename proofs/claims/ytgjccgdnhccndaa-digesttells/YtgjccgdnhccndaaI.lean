/- DigestTells walked: it answers true. -/
import Derived.Test.YtgjccgdnhccndaaH
namespace Go.Proofs.Ytgjccgdnhccndaa
open Go.RowKit

def TellsRel (w : World) (ps : List (List Nat)) (k : Nat) (i : Value) (wr : World) : Prop :=
  ∃ m, m + k = ps.length ∧ i = .int .i64 (m : Int) ∧ (∀ l ∈ ps.take m, l.length ≤ 500) ∧ Below w.heap.size w wr

set_option maxRecDepth 100000 in
theorem tells_any {w : World} {A : Option Addr} {c : Nat} {ps : List (List Nat)} {was : Int} (hp : Parts w w.heap.size A ps) (hs : ∀ l ∈ ps, Sml l) (hn : ps.length ≤ maxLen) :
    Calls Try.prog 3 #[.slice A ps.length c, .int .i64 was] w (Fine w) := by
  have HP := Lib.hid hp
  have HS := Lib.hid hs
  unfold maxLen at hn
  clear hp hs
  go_enter Try.func3, Try.ntmps3
  go_wp2_with fail
  refine (first_true w).mono ?_
  rintro e w1 ⟨rfl, hb1⟩
  have B1 := Lib.hid hb1
  clear hb1
  by_cases h20 : 20 < ps.length
  · go_wp2_with fail
    go_ret
    exact ⟨rfl, B1.out⟩
  · have h20' : ps.length ≤ 20 := by omega
    clear h20
    go_wp2_with fail
    go_loopg [14] ps.length (fun k i wr => TellsRel w ps k i wr)
    case atStart => exact ⟨0, by simp, rfl, by simp, B1.out⟩
    case round =>
      obtain ⟨m, hmk, hi, hall, hb⟩ := hrel
      subst hi
      have BB := Lib.hid hb
      have HA := Lib.hid hall
      clear hall
      cases gk with
      | zero =>
        have hge : ps.length ≤ m := by omega
        have HP1 := Lib.hid ((HP.out.below hb).more hb.size)
        have HL : Hid (∀ l ∈ ps, l.length ≤ 10000) := fun l hl => by
          have h := HA.out
          rw [List.take_of_length_le hge] at h
          have := h l hl
          omega
        clear hb hmk HA
        go_wp2_with fail
        refine (parts_any HP1.out HS.out h20' HL.out).mono ?_
        rintro e w2 ⟨rfl, hb2⟩
        have BB2 := Lib.hid (BB.out.trans (hb2.mono BB.out.size))
        have HP2 := Lib.hid ((HP1.out.below hb2).more hb2.size)
        clear hb2
        go_wp2_with fail
        refine (ref_parts HP2.out HS.out h20' HL.out).mono ?_
        rintro e w3 ⟨rfl, hb3⟩
        have BB3 := Lib.hid (BB2.out.trans (hb3.mono BB2.out.size))
        clear hb3
        go_wp2_with fail
        go_ret
        exact ⟨rfl, BB3.out⟩
      | succ j =>
        have hm : m < ps.length := by omega
        obtain ⟨l, hl⟩ : ∃ l, ps[m]? = some l := ⟨_, List.getElem?_eq_getElem hm⟩
        obtain ⟨b, o, rfl, hlt, hcells⟩ := HP.out (by omega)
        obtain ⟨A1, c1, h1, hbt, hA1, hmx⟩ := hcells m l hl
        have cx := (hb.cell (p := ⟨b, o + m, none⟩) hlt).trans h1
        unfold maxLen at hmx
        have LS := Lib.hid (HS.out l (List.mem_of_getElem? hl))
        have BT := Lib.hid ((hbt.below hb).more hb.size)
        have HA1 := Lib.hid hA1
        have HM := Lib.hid hmk
        have HN : Hid (l.length ≤ 500 → ∀ x ∈ ps.take (m + 1), x.length ≤ 500) := fun h5 x hx => by
          rw [List.take_add_one, hl] at hx
          rcases List.mem_append.1 hx with h | h
          · exact HA.out x h
          · simp at h
            subst h
            exact h5
        clear hl hcells h1 hbt hA1 hmk hb HA
        by_cases h500 : 500 < l.length
        · go_wp2_with fail
          go_ret
          exact ⟨rfl, BB.out⟩
        · have h500' : l.length ≤ 500 := by omega
          clear h500
          go_wp2_with fail
          refine (of_any BT.out LS.out (by omega)).mono ?_
          rintro e w2 ⟨rfl, hb2⟩
          have BB2 := Lib.hid (BB.out.trans (hb2.mono BB.out.size))
          have BT2 := Lib.hid ((BT.out.below hb2).more hb2.size)
          clear hb2 cx
          go_wp2_with fail
          refine (ref_of BT2.out LS.out HA1.out (by omega)).mono ?_
          rintro e w3 ⟨rfl, hb3⟩
          have BB3 := Lib.hid (BB2.out.trans (hb3.mono BB2.out.size))
          have BT3 := Lib.hid ((BT2.out.below hb3).more hb3.size)
          clear hb3
          go_wp2_with fail
          refine (chain_any BT3.out LS.out (by omega)).mono ?_
          rintro e w4 ⟨rfl, hb4⟩
          have BB4 := Lib.hid (BB3.out.trans (hb4.mono BB3.out.size))
          have BT4 := Lib.hid ((BT3.out.below hb4).more hb4.size)
          clear hb4
          go_wp2_with fail
          refine (ref_chain BT4.out LS.out HA1.out (by omega)).mono ?_
          rintro e w5 ⟨rfl, hb5⟩
          have BB5 := Lib.hid (BB4.out.trans (hb5.mono BB4.out.size))
          clear hb5
          go_wp2_with fail
          go_roundg j
          case measure => omega
          case rel => exact ⟨m + 1, by have := HM.out; omega, by go_num, HN.out h500', BB5.out⟩
end Go.Proofs.Ytgjccgdnhccndaa
