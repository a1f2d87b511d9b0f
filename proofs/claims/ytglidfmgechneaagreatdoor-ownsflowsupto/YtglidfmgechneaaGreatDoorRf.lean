/- The reference's isCat, Level, Same, Right. -/
import Derived.Test.YtglidfmgechneaaGreatDoorLb
import Derived.Test.YtglidfmgechneaaGreatDoorV
namespace Go.Proofs.YtglidfmgechneaaGreatDoor
open Go.RowKit

theorem isCat_any {w : World} {s : List UInt8} (hn : s.length ≤ 1048576) : Calls Tryz.prog 73 #[.string (str s)] w (RetB w (.bool (catOf s).isSome)) := by
  have H := Lib.hid (get_any (w := w) hn)
  go_enter Tryz.func73, Tryz.ntmps73
  go_wp2_with fail
  refine H.out.mono ?_
  rintro e w1 ⟨hb1, (⟨p, n, v, hc1, rfl, hrow1⟩ | ⟨hc1, rfl⟩)⟩
  · obtain ⟨A1, cc1, rfl⟩ := hrow1.slice
    have B1 := Lib.hid hb1
    have HC := Lib.hid hc1
    clear hb1 hc1 hrow1 H
    go_wp2_with fail
    go_ret
    exact ⟨by rw [HC.out]; rfl, B1.out.alloc B1.out.size _⟩
  · have B1 := Lib.hid hb1
    have HC := Lib.hid hc1
    clear hb1 hc1 H
    go_wp2_with fail
    go_ret
    exact ⟨by rw [HC.out]; rfl, B1.out.alloc B1.out.size _⟩

set_option maxRecDepth 100000 in
theorem refLevel_any {w : World} {A : Option Addr} {c : Nat} {l : List Ent} {s : List UInt8} (hl : Ents w w.heap.size A l) (hn : l.length ≤ 1000000) :
    Calls Tryz.prog 57 #[.slice A l.length c, .string (str s)] w (RetB w (.int .i64 (lev l s))) := by
  have HL := Lib.hid hl
  clear hl
  go_enter Tryz.func57, Tryz.ntmps57
  go_wp2_with fail
  go_loopg [9] l.length (fun k i wr => LevRel w l s k i wr)
  case atStart => exact ⟨0, by simp, rfl, by simp, Below.refl _ _⟩
  case round =>
    obtain ⟨m, hmk, hi, hno, hb⟩ := hrel
    subst hi
    have HB := Lib.hid hb
    have HN := Lib.hid hno
    have hsz := hb.size
    cases gk with
    | zero =>
      have hge : l.length ≤ m := by omega
      have HD : Hid (lev l s = 1) := lev_none (by have := HN.out; rwa [List.take_of_length_le hge] at this)
      clear hno hb
      go_wp2_with fail
      go_ret
      exact ⟨by rw [HD.out]; rfl, HB.out⟩
    | succ j =>
      have hm : m < l.length := by omega
      obtain ⟨⟨t, n⟩, hx⟩ : ∃ x, l[m]? = some x := ⟨_, List.getElem?_eq_getElem hm⟩
      obtain ⟨b, o, rfl, hlt, hcells⟩ := (HL.out.below hb) (by omega)
      obtain ⟨c1, c2⟩ := hcells m t n hx
      have hlt2 : b < wr.heap.size := by omega
      have HM := Lib.hid hmk
      have HX := Lib.hid hx
      by_cases he : t = s
      · have HD : Hid (lev l s = n) := lev_hit HX.out HN.out he
        have hq := str_same he
        clear hcells hx hmk hno hb he
        go_wp2_with fail
        go_ret
        exact ⟨by rw [HD.out]; rfl, HB.out.alloc hsz _⟩
      · have HN2 := Lib.hid (take_no (P := fun x => x.1 ≠ s) HX.out HN.out he)
        have hq := str_differs he
        clear hcells hx hmk hno hb he
        go_wp2_with fail
        go_roundg j
        case measure => omega
        case rel => exact ⟨m + 1, by have := HM.out; omega, by go_num, HN2.out, HB.out.alloc hsz _⟩

set_option maxRecDepth 100000 in
set_option maxHeartbeats 2000000 in
theorem refRight_any {w : World} {A : Option Addr} {c : Nat} {l : List Ent} (hl : Ents w w.heap.size A l) (hx : ∀ e ∈ l, e.1.length ≤ 1048576) (hn : l.length ≤ maxLen) :
    Calls Tryz.prog 56 #[.slice A l.length c] w (RetB w (.bool (decide (RightL l)))) := by
  have HL := Lib.hid hl
  have HX := Lib.hid hx
  clear hl hx
  unfold maxLen at hn
  by_cases h8 : 8 < l.length
  · have HD : Hid (decide (RightL l) = false) := decide_eq_false fun h => by have := h.1; omega
    go_enter Tryz.func56, Tryz.ntmps56
    go_wp2_with fail
    go_ret
    exact ⟨by rw [HD.out]; rfl, Below.refl _ _⟩
  have h8' : l.length ≤ 8 := by omega
  clear h8
  go_enter Tryz.func56, Tryz.ntmps56
  go_wp2_with fail
  go_loopg [9] l.length (fun k i wr => RightRel w l k i wr)
  case atStart => exact ⟨0, by simp, rfl, good_zero l, Below.refl _ _⟩
  case round =>
    obtain ⟨m, hmk, hi, hgd, hb⟩ := hrel
    subst hi
    have HB := Lib.hid hb
    have HG := Lib.hid hgd
    have hsz := hb.size
    cases gk with
    | zero =>
      have hge : l.length ≤ m := by omega
      have HD : Hid (decide (RightL l) = true) := decide_eq_true ⟨h8', by have := HG.out; rwa [List.take_of_length_le hge] at this⟩
      clear hgd hb
      go_wp2_with fail
      go_ret
      exact ⟨by rw [HD.out]; rfl, HB.out⟩
    | succ j =>
      have hm : m < l.length := by omega
      obtain ⟨⟨t, n⟩, hx⟩ : ∃ x, l[m]? = some x := ⟨_, List.getElem?_eq_getElem hm⟩
      obtain ⟨b, o, rfl, hlt, hcells⟩ := (HL.out.below hb) (by omega)
      obtain ⟨c1, c2⟩ := hcells m t n hx
      have hlt2 : b < wr.heap.size := by omega
      have HM := Lib.hid hmk
      have HXM := Lib.hid hx
      have htl : t.length ≤ 1048576 := HX.out _ (List.mem_of_getElem? hx)
      have H34 := Lib.hid (isCat_any (w := wr) htl)
      have C1 := Lib.hid c1
      have C2 := Lib.hid c2
      have hprev : Hid (∀ k, m = k + 1 → ∃ p q, l[k]? = some (p, q) ∧ wr.cell? ⟨b, o + k * 2, none⟩ = some (.string (str p)) ∧ p.length ≤ 1048576) := fun k hk => by
        obtain ⟨⟨p, q⟩, hp⟩ : ∃ x, l[k]? = some x := ⟨_, List.getElem?_eq_getElem (by omega)⟩
        exact ⟨p, q, hp, (hcells k p q hp).1, HX.out _ (List.mem_of_getElem? hp)⟩
      clear hcells hx hmk hgd
      go_wp2_with fail
      refine H34.out.mono ?_
      rintro e w1 ⟨rfl, hb1⟩
      have B1 := Lib.hid hb1
      have c3 : w1.cell? ⟨b, o + m * 2, none⟩ = some (.string (str t)) := (hb1.cell (p := ⟨b, o + m * 2, none⟩) hlt2).trans C1.out
      have c4 : w1.cell? ⟨b, o + m * 2 + 1, none⟩ = some (.int .i64 n) := (hb1.cell (p := ⟨b, o + m * 2 + 1, none⟩) hlt2).trans C2.out
      clear hb1 H34 c1 c2 hb
      cases hcat : (catOf t).isSome with
      | false =>
        have HD : Hid (decide (RightL l) = false) := decide_eq_false (bad_entry HXM.out fun h => by
          have h1 := (entErr_zero.1 h.1).1
          simp only at h1
          rw [hcat] at h1
          cases h1)
        clear hcat
        go_wp2_with fail
        go_ret
        exact ⟨by rw [HD.out]; rfl, HB.out.trans (B1.out.mono hsz)⟩
      | true =>
        have HCAT := Lib.hid hcat
        clear hcat
        by_cases hn0 : n = 0
        · subst hn0
          have HZ : Hid (entErr (t, 0) = 0) := entErr_zero.2 ⟨HCAT.out, by simp⟩
          have HN1 : Hid ((t, (0 : Int)).2 ≠ 1) := by unfold Hid; simp
          by_cases hm0 : m = 0
          · subst hm0
            have HG2 := Lib.hid (good_first HXM.out HZ.out HN1.out)
            simp only [Nat.zero_mul, Nat.add_zero] at c3 c4
            clear hprev
            go_wp2_with fail
            go_quiet (fail)
            go_wp2_with fail
            go_roundg j
            case measure => omega
            case rel => exact ⟨1, by have := HM.out; omega, by go_num, HG2.out, below_drewN (HB.out.trans (B1.out.mono hsz)) _⟩
          · obtain ⟨k, hk⟩ : ∃ k, m = k + 1 := ⟨m - 1, by omega⟩
            obtain ⟨p, q, hp, cp, hpl⟩ := hprev.out k hk
            have cp1 : w1.cell? ⟨b, o + k * 2, none⟩ = some (.string (str p)) := (B1.out.cell (p := ⟨b, o + k * 2, none⟩) (show b < _ by omega)).trans cp
            have H40 : Hid (∀ W, Below w1.heap.size w1 W → Calls Tryz.prog 44 #[.string (str p), .string (str t)] W fun e w' => e = .returned (.int .i64 (cmpC p t)) ∧ Below w1.heap.size w1 w') := fun W h =>
              (refCompare_any hpl htl).mono fun e w' h2 => ⟨h2.1, h.trans (h2.2.mono h.size)⟩
            have hbw1 : b < w1.heap.size := by have := B1.out.size; omega
            have HPM := Lib.hid hp
            have HK := Lib.hid hk
            obtain ⟨y, hy⟩ : ∃ y, y = cmpC p t := ⟨_, rfl⟩
            rw [← hy] at H40
            have HY := Lib.hid hy
            have hk1 : IntKind.i64.wrap ((m : Int) - 1) = (k : Int) := by rw [IntKind.wrap_i64]; omega
            have hk2 : ¬ ((k : Int) < 0) := by omega
            have hk3 : (k : Int) < (l.length : Int) := by omega
            have hk4 : k < l.length := by omega
            have hm1 : (m : Int) > 0 := by omega
            have hm2 : 0 < m := by omega
            clear hprev hy hp cp hk hm0
            go_wp2_with fail
            go_region_held3 (fun W => W.cell? ⟨b, o + k * 2, none⟩ = some (.string (str p)) ∧ W.cell? ⟨b, o + m * 2, none⟩ = some (.string (str t)))
              (first
                | go_keep
                | exact ⟨(hbA.cell (p := ⟨b, o + k * 2, none⟩) hbw1).trans cp1, (hbA.cell (p := ⟨b, o + m * 2, none⟩) hbw1).trans c3⟩)
              (first
                | (go_at_call 44; refine (H40.out _ (Below.refl _ _).drew).mono ?_; rintro e W1 ⟨rfl, hbA⟩))
            have B2 := Lib.hid (HB.out.trans ((B1.out.trans (hbA.mono (by have := B1.out.size; omega))).mono hsz))
            clear hbA cp1 c3 c4
            by_cases hy1 : y = -1
            · have HG2 : Hid (Good (l.take (m + 1))) := by
                have hg := HG.out
                have hx := HXM.out
                rw [HK.out] at hg hx ⊢
                exact good_next hg HPM.out hx HZ.out HN1.out (HY.out.symm.trans hy1)
              subst hy1
              clear hk1 hk2 hk3 hk4
              go_wp2_with fail
              go_roundg j
              case measure => omega
              case rel => exact ⟨m + 1, by have := HM.out; omega, by go_num, HG2.out, B2.out⟩
            · have HD : Hid (decide (RightL l) = false) := decide_eq_false (by
                have hx := HXM.out
                rw [HK.out] at hx
                exact bad_next HPM.out hx fun h => hy1 (HY.out.trans h))
              have hyf : ((y : Int) == (-1 : Int)) = false := by simpa using hy1
              clear hk1 hk2 hk3 hk4 hy1
              go_wp2_with fail
              go_ret
              exact ⟨by rw [HD.out]; rfl, B2.out⟩
        · have hb0 : ((n : Int) == (0 : Int)) = false := by simpa using hn0
          by_cases hn2 : n = 2
          · subst hn2
            have HZ : Hid (entErr (t, 2) = 0) := entErr_zero.2 ⟨HCAT.out, by simp⟩
            have HN1 : Hid ((t, (2 : Int)).2 ≠ 1) := by unfold Hid; simp
            by_cases hm0 : m = 0
            · subst hm0
              have HG2 := Lib.hid (good_first HXM.out HZ.out HN1.out)
              simp only [Nat.zero_mul, Nat.add_zero] at c3 c4
              clear hprev
              go_wp2_with fail
              go_quiet (fail)
              go_wp2_with fail
              go_roundg j
              case measure => omega
              case rel => exact ⟨1, by have := HM.out; omega, by go_num, HG2.out, below_drewN (HB.out.trans (B1.out.mono hsz)) _⟩
            · obtain ⟨k, hk⟩ : ∃ k, m = k + 1 := ⟨m - 1, by omega⟩
              obtain ⟨p, q, hp, cp, hpl⟩ := hprev.out k hk
              have cp1 : w1.cell? ⟨b, o + k * 2, none⟩ = some (.string (str p)) := (B1.out.cell (p := ⟨b, o + k * 2, none⟩) (show b < _ by omega)).trans cp
              have H40 : Hid (∀ W, Below w1.heap.size w1 W → Calls Tryz.prog 44 #[.string (str p), .string (str t)] W fun e w' => e = .returned (.int .i64 (cmpC p t)) ∧ Below w1.heap.size w1 w') := fun W h =>
                (refCompare_any hpl htl).mono fun e w' h2 => ⟨h2.1, h.trans (h2.2.mono h.size)⟩
              have hbw1 : b < w1.heap.size := by have := B1.out.size; omega
              have HPM := Lib.hid hp
              have HK := Lib.hid hk
              obtain ⟨y, hy⟩ : ∃ y, y = cmpC p t := ⟨_, rfl⟩
              rw [← hy] at H40
              have HY := Lib.hid hy
              have hk1 : IntKind.i64.wrap ((m : Int) - 1) = (k : Int) := by rw [IntKind.wrap_i64]; omega
              have hk2 : ¬ ((k : Int) < 0) := by omega
              have hk3 : (k : Int) < (l.length : Int) := by omega
              have hk4 : k < l.length := by omega
              have hm1 : (m : Int) > 0 := by omega
              have hm2 : 0 < m := by omega
              clear hprev hy hp cp hk hm0
              go_wp2_with fail
              go_region_held3 (fun W => W.cell? ⟨b, o + k * 2, none⟩ = some (.string (str p)) ∧ W.cell? ⟨b, o + m * 2, none⟩ = some (.string (str t)))
                (first
                  | go_keep
                  | exact ⟨(hbA.cell (p := ⟨b, o + k * 2, none⟩) hbw1).trans cp1, (hbA.cell (p := ⟨b, o + m * 2, none⟩) hbw1).trans c3⟩)
                (first
                  | (go_at_call 44; refine (H40.out _ (Below.refl _ _).drew).mono ?_; rintro e W1 ⟨rfl, hbA⟩))
              have B2 := Lib.hid (HB.out.trans ((B1.out.trans (hbA.mono (by have := B1.out.size; omega))).mono hsz))
              clear hbA cp1 c3 c4
              by_cases hy1 : y = -1
              · have HG2 : Hid (Good (l.take (m + 1))) := by
                  have hg := HG.out
                  have hx := HXM.out
                  rw [HK.out] at hg hx ⊢
                  exact good_next hg HPM.out hx HZ.out HN1.out (HY.out.symm.trans hy1)
                subst hy1
                clear hk1 hk2 hk3 hk4
                go_wp2_with fail
                go_roundg j
                case measure => omega
                case rel => exact ⟨m + 1, by have := HM.out; omega, by go_num, HG2.out, B2.out⟩
              · have HD : Hid (decide (RightL l) = false) := decide_eq_false (by
                  have hx := HXM.out
                  rw [HK.out] at hx
                  exact bad_next HPM.out hx fun h => hy1 (HY.out.trans h))
                have hyf : ((y : Int) == (-1 : Int)) = false := by simpa using hy1
                clear hk1 hk2 hk3 hk4 hy1
                go_wp2_with fail
                go_ret
                exact ⟨by rw [HD.out]; rfl, B2.out⟩
          · have hb2 : ((n : Int) == (2 : Int)) = false := by simpa using hn2
            by_cases hn3 : n = 3
            · subst hn3
              have HZ : Hid (entErr (t, 3) = 0) := entErr_zero.2 ⟨HCAT.out, by simp⟩
              have HN1 : Hid ((t, (3 : Int)).2 ≠ 1) := by unfold Hid; simp
              by_cases hm0 : m = 0
              · subst hm0
                have HG2 := Lib.hid (good_first HXM.out HZ.out HN1.out)
                simp only [Nat.zero_mul, Nat.add_zero] at c3 c4
                clear hprev
                go_wp2_with fail
                go_quiet (fail)
                go_wp2_with fail
                go_roundg j
                case measure => omega
                case rel => exact ⟨1, by have := HM.out; omega, by go_num, HG2.out, below_drewN (HB.out.trans (B1.out.mono hsz)) _⟩
              · obtain ⟨k, hk⟩ : ∃ k, m = k + 1 := ⟨m - 1, by omega⟩
                obtain ⟨p, q, hp, cp, hpl⟩ := hprev.out k hk
                have cp1 : w1.cell? ⟨b, o + k * 2, none⟩ = some (.string (str p)) := (B1.out.cell (p := ⟨b, o + k * 2, none⟩) (show b < _ by omega)).trans cp
                have H40 : Hid (∀ W, Below w1.heap.size w1 W → Calls Tryz.prog 44 #[.string (str p), .string (str t)] W fun e w' => e = .returned (.int .i64 (cmpC p t)) ∧ Below w1.heap.size w1 w') := fun W h =>
                  (refCompare_any hpl htl).mono fun e w' h2 => ⟨h2.1, h.trans (h2.2.mono h.size)⟩
                have hbw1 : b < w1.heap.size := by have := B1.out.size; omega
                have HPM := Lib.hid hp
                have HK := Lib.hid hk
                obtain ⟨y, hy⟩ : ∃ y, y = cmpC p t := ⟨_, rfl⟩
                rw [← hy] at H40
                have HY := Lib.hid hy
                have hk1 : IntKind.i64.wrap ((m : Int) - 1) = (k : Int) := by rw [IntKind.wrap_i64]; omega
                have hk2 : ¬ ((k : Int) < 0) := by omega
                have hk3 : (k : Int) < (l.length : Int) := by omega
                have hk4 : k < l.length := by omega
                have hm1 : (m : Int) > 0 := by omega
                have hm2 : 0 < m := by omega
                clear hprev hy hp cp hk hm0
                go_wp2_with fail
                go_region_held3 (fun W => W.cell? ⟨b, o + k * 2, none⟩ = some (.string (str p)) ∧ W.cell? ⟨b, o + m * 2, none⟩ = some (.string (str t)))
                  (first
                    | go_keep
                    | exact ⟨(hbA.cell (p := ⟨b, o + k * 2, none⟩) hbw1).trans cp1, (hbA.cell (p := ⟨b, o + m * 2, none⟩) hbw1).trans c3⟩)
                  (first
                    | (go_at_call 44; refine (H40.out _ (Below.refl _ _).drew).mono ?_; rintro e W1 ⟨rfl, hbA⟩))
                have B2 := Lib.hid (HB.out.trans ((B1.out.trans (hbA.mono (by have := B1.out.size; omega))).mono hsz))
                clear hbA cp1 c3 c4
                by_cases hy1 : y = -1
                · have HG2 : Hid (Good (l.take (m + 1))) := by
                    have hg := HG.out
                    have hx := HXM.out
                    rw [HK.out] at hg hx ⊢
                    exact good_next hg HPM.out hx HZ.out HN1.out (HY.out.symm.trans hy1)
                  subst hy1
                  clear hk1 hk2 hk3 hk4
                  go_wp2_with fail
                  go_roundg j
                  case measure => omega
                  case rel => exact ⟨m + 1, by have := HM.out; omega, by go_num, HG2.out, B2.out⟩
                · have HD : Hid (decide (RightL l) = false) := decide_eq_false (by
                    have hx := HXM.out
                    rw [HK.out] at hx
                    exact bad_next HPM.out hx fun h => hy1 (HY.out.trans h))
                  have hyf : ((y : Int) == (-1 : Int)) = false := by simpa using hy1
                  clear hk1 hk2 hk3 hk4 hy1
                  go_wp2_with fail
                  go_ret
                  exact ⟨by rw [HD.out]; rfl, B2.out⟩
            · have hb3 : ((n : Int) == (3 : Int)) = false := by simpa using hn3
              have hx0 : ((n : Int) != (0 : Int)) = true := by simpa using hn0
              have hx2 : ((n : Int) != (2 : Int)) = true := by simpa using hn2
              have hx3 : ((n : Int) != (3 : Int)) = true := by simpa using hn3
              have HD : Hid (decide (RightL l) = false) := decide_eq_false (bad_entry HXM.out fun h => by
                have h1 := (entErr_zero.1 h.1).2
                have h2 := h.2
                simp only at h1 h2
                omega)
              go_wp2_with fail
              go_ret
              exact ⟨by rw [HD.out]; rfl, HB.out.trans (B1.out.mono hsz)⟩
end Go.Proofs.YtglidfmgechneaaGreatDoor
