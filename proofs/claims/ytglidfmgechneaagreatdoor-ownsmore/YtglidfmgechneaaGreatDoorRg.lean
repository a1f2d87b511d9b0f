/- The reference's Has, Same, Right. -/
import Derived.Test.YtglidfmgechneaaGreatDoorOb
import Derived.Test.YtglidfmgechneaaGreatDoorRf
namespace Go.Proofs.YtglidfmgechneaaGreatDoor
open Go.RowKit

set_option maxRecDepth 100000 in
theorem refHas_any {w : World} {A : Option Addr} {c : Nat} {l : List (List UInt8)} {s : List UInt8} (hl : Strs w w.heap.size A l) (hn : l.length ≤ 1000000) :
    Calls Tryz.prog 19 #[.slice A l.length c, .string (str s)] w fun e w' => e = .returned (.bool (decide (s ∈ l))) ∧ w = w' := by
  have HL := Lib.hid hl
  clear hl
  go_enter Tryz.func19, Tryz.ntmps19
  go_wp2_with fail
  go_loopg [9] l.length (fun k i wr => IxRel w l s k i wr)
  case atStart => exact ⟨0, by simp, rfl, by simp, rfl⟩
  case round =>
    obtain ⟨m, hmk, hi, hno, hw⟩ := hrel
    subst hi hw
    have HN := Lib.hid hno
    clear hno
    cases gk with
    | zero =>
      have hge : l.length ≤ m := by omega
      have HD : Hid (decide (s ∈ l) = false) := decide_eq_false fun h => by
        have := HN.out
        rw [List.take_of_length_le hge] at this
        exact this s h rfl
      go_wp2_with fail
      go_ret
      exact ⟨by rw [HD.out] <;> rfl, rfl⟩
    | succ j =>
      have hm : m < l.length := by omega
      obtain ⟨x, hx⟩ : ∃ x, l[m]? = some x := ⟨_, List.getElem?_eq_getElem hm⟩
      obtain ⟨b, o, rfl, hlt, hcells⟩ := HL.out (by omega)
      have cx := hcells m x hx
      have HM := Lib.hid hmk
      have HX := Lib.hid hx
      clear hcells hx hmk
      by_cases he : x = s
      · have hq := str_same he
        have HD : Hid (decide (s ∈ l) = true) := decide_eq_true (by rw [← he]; exact List.mem_of_getElem? HX.out)
        clear he
        go_wp2_with fail
        go_ret
        exact ⟨by rw [HD.out] <;> rfl, rfl⟩
      · have hq := str_differs he
        have HN2 : Hid (∀ y ∈ l.take (m + 1), ¬ y = s) := take_all HX.out HN.out he
        clear he
        go_wp2_with fail
        go_roundg j
        case measure => omega
        case rel => exact ⟨m + 1, by have := HM.out; omega, by go_num, HN2.out, rfl⟩

set_option maxRecDepth 100000 in
theorem refSameO_any {w : World} {A A' : Option Addr} {c c' : Nat} {l l' : List (List UInt8)} (h : Strs w w.heap.size A l) (h' : Strs w w.heap.size A' l') (hn : l.length ≤ 1000000) :
    Calls Tryz.prog 22 #[.slice A l.length c, .slice A' l'.length c'] w (RetB w (.bool (decide (l = l')))) := by
  have HL := Lib.hid h
  have HL' := Lib.hid h'
  clear h h'
  by_cases hlen : l.length = l'.length
  · rw [← hlen]
    have HLEN := Lib.hid hlen
    clear hlen
    go_enter Tryz.func22, Tryz.ntmps22
    go_wp2_with fail
    go_loopg [13] l.length (fun k i wr => EqSRel w l l' k i wr)
    case atStart => exact ⟨0, by simp, rfl, by simp, Below.refl _ _⟩
    case round =>
      obtain ⟨m, hmk, hi, htk, hb⟩ := hrel
      subst hi
      have HB := Lib.hid hb
      have HT := Lib.hid htk
      cases gk with
      | zero =>
        have hge : l.length ≤ m := by omega
        have HD : Hid (decide (l = l') = true) := decide_eq_true (by
          have h1 := HT.out
          have h2 := HLEN.out
          rwa [List.take_of_length_le hge, List.take_of_length_le (by omega)] at h1)
        clear htk hb
        go_wp2_with fail
        go_ret
        exact ⟨by rw [HD.out] <;> rfl, HB.out⟩
      | succ j =>
        have hm : m < l.length := by omega
        have hm' : m < l'.length := by have := HLEN.out; omega
        obtain ⟨t, hx⟩ : ∃ x, l[m]? = some x := ⟨_, List.getElem?_eq_getElem hm⟩
        obtain ⟨t', hx'⟩ : ∃ x, l'[m]? = some x := ⟨_, List.getElem?_eq_getElem hm'⟩
        obtain ⟨b, o, rfl, hlt, hcells⟩ := (HL.out.below hb) (by omega)
        obtain ⟨b', o', rfl, hlt', hcells'⟩ := (HL'.out.below hb) (by omega)
        have c1 := hcells m t hx
        have c3 := hcells' m t' hx'
        have HM := Lib.hid hmk
        have HX := Lib.hid hx
        have HX' := Lib.hid hx'
        by_cases he : t = t'
        · have hq := str_same he
          have HN : Hid (l.take (m + 1) = l'.take (m + 1)) := by
            unfold Hid
            rw [List.take_add_one, List.take_add_one, HT.out, HX.out, HX'.out, he]
          clear hcells hcells' hx hx' hmk htk hb he hm'
          go_wp2_with fail
          go_region
          go_wp2_with fail
          go_roundg j
          case measure => omega
          case rel => exact ⟨m + 1, by have := HM.out; omega, by go_num, HN.out, HB.out.drew⟩
        · have hq := str_differs he
          have HD : Hid (decide (l = l') = false) := decide_eq_false fun e => by
            have h1 := HX.out
            rw [e, HX'.out] at h1
            injection h1 with h1
            exact he h1.symm
          clear hcells hcells' hx hx' hmk htk hb he hm'
          go_wp2_with fail
          go_region
          go_wp2_with fail
          go_ret
          exact ⟨by rw [HD.out] <;> rfl, HB.out.drew⟩
  · have HD : Hid (decide (l = l') = false) := decide_eq_false fun e => hlen (by rw [e])
    have hne : ((l.length : Int) == (l'.length : Int)) = false := by simpa using (fun h => hlen (by omega))
    clear hlen
    go_enter Tryz.func22, Tryz.ntmps22
    go_wp2_with fail
    go_ret
    exact ⟨by rw [HD.out] <;> rfl, Below.refl _ _⟩

/-- Nothing is wrong with a list so far. -/
def GoodO (l : List (List UInt8)) : Prop := Rises cmpC l ∧ ∀ x ∈ l, (catOf x).isSome = true
theorem goodO_first {l : List (List UInt8)} {e : List UInt8} (h : l[0]? = some e) (h1 : (catOf e).isSome = true) : GoodO (l.take 1) := by
  cases l with
  | nil => simp at h
  | cons x r =>
    simp at h
    subst h
    exact ⟨by simp [Rises], by simpa using h1⟩
theorem goodO_next {l : List (List UInt8)} {m : Nat} {p e : List UInt8} (h : GoodO (l.take (m + 1))) (hp : l[m]? = some p) (he : l[m + 1]? = some e) (h1 : (catOf e).isSome = true) (hc : cmpC p e = -1) : GoodO (l.take (m + 1 + 1)) := by
  refine ⟨?_, take_all he h.2 h1⟩
  have hr := h.1
  rw [List.take_add_one, hp] at hr
  rw [List.take_add_one, he, List.take_add_one, hp]
  simp only [Option.toList_some] at hr ⊢
  have h3 := List.pairwise_append.1 hr
  refine List.pairwise_append.2 ⟨hr, List.pairwise_singleton _ _, fun x hx y hy => ?_⟩
  simp at hy
  subst hy
  rcases List.mem_append.1 hx with h4 | h4
  · exact tot_cmpC.lt_trans (h3.2.2 x h4 _ (by simp)) hc
  · simp at h4
    subst h4
    exact hc
theorem badO_next {l : List (List UInt8)} {m : Nat} {p e : List UInt8} (hp : l[m]? = some p) (he : l[m + 1]? = some e) (hc : ¬ cmpC p e = -1) : ¬ OwnL l := fun hr => by
  have h1 := List.pairwise_iff_getElem.1 hr.2.1 m (m + 1) (List.getElem?_eq_some_iff.1 hp).1 (List.getElem?_eq_some_iff.1 he).1 (by omega)
  rw [(List.getElem?_eq_some_iff.1 hp).2, (List.getElem?_eq_some_iff.1 he).2] at h1
  exact hc h1

def RightORel (w : World) (l : List (List UInt8)) (k : Nat) (i : Value) (wr : World) : Prop :=
  ∃ m, m + k = l.length ∧ i = .int .i64 (m : Int) ∧ GoodO (l.take m) ∧ Below w.heap.size w wr

set_option maxRecDepth 100000 in
set_option maxHeartbeats 1000000 in
theorem refRightO_any {w : World} {A : Option Addr} {c : Nat} {l : List (List UInt8)} (hl : Strs w w.heap.size A l) (hx : ∀ x ∈ l, x.length ≤ 1048576) (hn : l.length ≤ 1000000) :
    Calls Tryz.prog 17 #[.slice A l.length c] w (RetB w (.bool (decide (OwnL l)))) := by
  have HL := Lib.hid hl
  have HX := Lib.hid hx
  clear hl hx
  go_enter Tryz.func17, Tryz.ntmps17
  go_wp2_with fail
  go_loopg [9] l.length (fun k i wr => RightORel w l k i wr)
  case atStart => exact ⟨0, by simp, rfl, ⟨by simp [Rises], by simp⟩, Below.refl _ _⟩
  case round =>
    obtain ⟨m, hmk, hi, hgd, hb⟩ := hrel
    subst hi
    have HB := Lib.hid hb
    have HG := Lib.hid hgd
    have hsz := hb.size
    cases gk with
    | zero =>
      have hge : l.length ≤ m := by omega
      have HD : Hid (decide (OwnL l) = decide ((l.length : Int) ≤ 8)) := decide_eq_decide.2 ⟨fun h => by have := h.1; omega, fun h => ⟨by omega, by have := HG.out; rwa [List.take_of_length_le hge] at this⟩⟩
      clear hgd hb
      go_wp2_with fail
      go_ret
      exact ⟨by rw [HD.out] <;> rfl, HB.out⟩
    | succ j =>
      have hm : m < l.length := by omega
      obtain ⟨t, hx⟩ : ∃ x, l[m]? = some x := ⟨_, List.getElem?_eq_getElem hm⟩
      obtain ⟨b, o, rfl, hlt, hcells⟩ := (HL.out.below hb) (by omega)
      have c1 := hcells m t hx
      have hlt2 : b < wr.heap.size := by omega
      have HM := Lib.hid hmk
      have HXM := Lib.hid hx
      have htl : t.length ≤ 1048576 := HX.out _ (List.mem_of_getElem? hx)
      have H34 := Lib.hid (get_any (w := wr) htl)
      have hprev : Hid (∀ k, m = k + 1 → ∃ p, l[k]? = some p ∧ wr.cell? ⟨b, o + k, none⟩ = some (.string (str p)) ∧ p.length ≤ 1048576) := fun k hk => by
        obtain ⟨p, hp⟩ : ∃ x, l[k]? = some x := ⟨_, List.getElem?_eq_getElem (by omega)⟩
        exact ⟨p, hp, hcells k p hp, HX.out _ (List.mem_of_getElem? hp)⟩
      clear hcells hx hmk hgd
      go_wp2_with fail
      refine H34.out.mono ?_
      rintro e w1 ⟨hb1, (⟨p, n, v, hc1, rfl, hrow1⟩ | ⟨hc1, rfl⟩)⟩
      case inr =>
        have HD : Hid (decide (OwnL l) = false) := decide_eq_false fun h => by
          have h1 := h.2.2 t (List.mem_of_getElem? HXM.out)
          rw [hc1] at h1
          cases h1
        have B1 := Lib.hid hb1
        clear hb1 hc1 H34 c1 hb hprev
        go_wp2_with fail
        go_ret
        exact ⟨by rw [HD.out] <;> rfl, HB.out.trans ((B1.out.alloc B1.out.size _).mono hsz)⟩
      obtain ⟨A1, cc1, rfl⟩ := hrow1.slice
      have HCAT : Hid ((catOf t).isSome = true) := by unfold Hid; rw [hc1]; rfl
      have B1 := Lib.hid hb1
      clear hb1 hc1 hrow1 H34 c1 hb
      by_cases hm0 : m = 0
      · subst hm0
        have HG2 := Lib.hid (goodO_first HXM.out HCAT.out)
        clear hprev
        go_wp2_with fail
        go_roundg j
        case measure => omega
        case rel => exact ⟨1, by have := HM.out; omega, by go_num, HG2.out, HB.out.trans ((B1.out.alloc B1.out.size _).mono hsz)⟩
      · obtain ⟨k, rfl⟩ : ∃ k, m = k + 1 := ⟨m - 1, by omega⟩
        obtain ⟨q, hp, cq, hql⟩ := hprev.out k rfl
        obtain ⟨y, hy⟩ : ∃ y, y = cmpC q t := ⟨_, rfl⟩
        have hBW : Hid (∀ W, Below wr.heap.size wr W → Calls Tryz.prog 44 #[.string (str q), .string (str t)] W fun e w' => e = .returned (.int .i64 y) ∧ Below wr.heap.size wr w') := fun W h => by
          rw [hy]
          exact (refCompare_any hql htl).mono fun e w' h2 => ⟨h2.1, h.trans (h2.2.mono h.size)⟩
        have CQ : Hid (∀ W, Below wr.heap.size wr W → W.cell? ⟨b, o + k, none⟩ = some (.string (str q))) := fun W h => (h.cell (p := ⟨b, o + k, none⟩) hlt2).trans cq
        have HY := Lib.hid hy
        have HPM := Lib.hid hp
        have hk2 : ¬ ((k : Int) < 0) := by omega
        have hk3 : (k : Int) < (l.length : Int) := by omega
        have hm1 : (k : Int) + 1 > 0 := by omega
        obtain ⟨W0, hW0⟩ : ∃ W0, W0 = w1.alloc (.cells #[.slice A1 p.length cc1, .int .i64 (n : Int)] 56) := ⟨_, rfl⟩
        have BW0 : Hid (Below wr.heap.size wr W0) := by rw [hW0]; exact B1.out.alloc B1.out.size _
        have cq1 : (w1.alloc (.cells #[.slice A1 p.length cc1, .int .i64 (n : Int)] 56)).cell? ⟨b, o + k, none⟩ = some (.string (str q)) := by rw [← hW0]; exact CQ.out W0 BW0.out
        have HW0 := Lib.hid hW0
        have H44 := Lib.hid (hBW.out W0 BW0.out)
        clear hprev hy hp cq hm0 hW0
        go_wp2_with fail
        rw [← HW0.out]
        refine H44.out.mono ?_
        rintro e w2 ⟨rfl, hb2⟩
        have B2 : Hid (Below w.heap.size w w2) := HB.out.trans (hb2.mono hsz)
        clear hb2 H44 cq1
        by_cases hy1 : y = -1
        · have HG2 : Hid (GoodO (l.take (k + 1 + 1))) := by
            exact goodO_next HG.out HPM.out HXM.out HCAT.out (HY.out.symm.trans hy1)
          subst hy1
          clear hk2 hk3
          go_wp2_with fail
          go_roundg j
          case measure => omega
          case rel => exact ⟨k + 1 + 1, by have := HM.out; omega, by go_num, HG2.out, B2.out⟩
        · have HD : Hid (decide (OwnL l) = false) := decide_eq_false (by
            exact badO_next HPM.out HXM.out fun h => hy1 (HY.out.trans h))
          have hy2 : ((y : Int) == (-1 : Int)) = false := by simpa using hy1
          clear hk2 hk3 hy1
          go_wp2_with fail
          go_ret
          exact ⟨by rw [HD.out] <;> rfl, B2.out⟩
end Go.Proofs.YtglidfmgechneaaGreatDoor
