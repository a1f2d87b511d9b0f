/- owns.Flows, Sees, Alters. -/
import Derived.Test.YtglidfmgechneaaGreatDoorOe
namespace Go.Proofs.YtglidfmgechneaaGreatDoor
open Go.RowKit

set_option maxRecDepth 100000 in
set_option maxHeartbeats 1000000 in
theorem flowsO_any {w : World} {A B L : Option Addr} {c d cl : Nat} {a b : List Ent} {l : List (List UInt8)} (he : Env w) (ha : Lab w A c a) (hb : Lab w B d b) (hl : SL w L cl l) :
    Calls Tryz.prog 25 #[.slice A a.length c, .slice B b.length d, .slice L l.length cl] w (RetB w (.bool (decide (FlowsO a b l)))) := by
  obtain ⟨W0, hW0⟩ : ∃ W0, W0 = w.alloc (.cells #[.slice A a.length c] 43) := ⟨_, rfl⟩
  obtain ⟨W1, hW1⟩ : ∃ W1, W1 = W0.alloc (.cells #[.slice B b.length d] 43) := ⟨_, rfl⟩
  obtain ⟨W2, hW2⟩ : ∃ W2, W2 = W1.alloc (.cells #[.slice L l.length cl] 22) := ⟨_, rfl⟩
  have hs0 : W0.heap.size = w.heap.size + 1 := by rw [hW0]; simp
  have hs1 : W1.heap.size = W0.heap.size + 1 := by rw [hW1]; simp
  have hs2 : W2.heap.size = W1.heap.size + 1 := by rw [hW2]; simp
  have hb0 : Below w.heap.size w W0 := by rw [hW0]; exact (Below.refl _ _).alloc (Nat.le_refl _) _
  have hb1 : Below W0.heap.size W0 W1 := by rw [hW1]; exact (Below.refl _ _).alloc (Nat.le_refl _) _
  have hb2 : Below W1.heap.size W1 W2 := by rw [hW2]; exact (Below.refl _ _).alloc (Nat.le_refl _) _
  have k0 : W0.cell? ⟨w.heap.size, 0, none⟩ = some (.slice A a.length c) := by rw [hW0]; simp
  have k1 : W1.cell? ⟨W0.heap.size, 0, none⟩ = some (.slice B b.length d) := by rw [hW1]; simp
  have k2 : W2.cell? ⟨W1.heap.size, 0, none⟩ = some (.slice L l.length cl) := by rw [hW2]; simp
  have B02 : Hid (Below w.heap.size w W2) := hb0.trans ((hb1.trans (hb2.mono hb1.size)).mono hb0.size)
  have BX : Hid (Boxes W2 W1.heap.size w.heap.size W0.heap.size L A B cl c d l a b) :=
    ⟨k2, (hb2.cell (p := ⟨w.heap.size, 0, none⟩) (show w.heap.size < _ by omega)).trans ((hb1.cell (p := ⟨w.heap.size, 0, none⟩) (show w.heap.size < _ by omega)).trans k0), (hb2.cell (p := ⟨W0.heap.size, 0, none⟩) (show W0.heap.size < _ by omega)).trans k1, hl.on B02.out, ha.on B02.out, hb.on B02.out⟩
  have E2 := Lib.hid (he.on B02.out)
  have HW0 := Lib.hid hW0
  have HW1 := Lib.hid hW1
  have HW2 := Lib.hid hW2
  have HS0 := Lib.hid hs0
  have HS1 := Lib.hid hs1
  have H51 := Lib.hid (labelRight_any (c := c) E2.out BX.out.la.ents BX.out.la.txt BX.out.la.len)
  have ka := BX.out.ka
  clear he ha hb hl hb0 hb1 hb2 k0 k1 k2 hW0 hW1 hW2 hs0 hs1 hs2
  by_cases hra : ¬ RightL a
  · rw [decide_eq_false hra] at H51
    have HD : Hid (decide (FlowsO a b l) = false) := decide_eq_false fun h => hra h.1
    clear hra
    go_enter Tryz.func25, Tryz.ntmps25
    go_wp2_with fail
    rw [← HW0.out, ← HS0.out, ← HW1.out, ← HS1.out, ← HW2.out]
    refine H51.out.mono ?_
    rintro e w1 ⟨rfl, hb1⟩
    have B1 : Hid (Below w.heap.size w w1) := B02.out.trans (hb1.mono B02.out.size)
    clear hb1
    go_wp2_with fail
    go_ret
    exact ⟨by rw [HD.out] <;> rfl, B1.out⟩
  replace hra := Decidable.not_not.1 hra
  rw [decide_eq_true hra] at H51
  have RA := Lib.hid hra
  clear hra
  go_enter Tryz.func25, Tryz.ntmps25
  go_wp2_with fail
  rw [← HW0.out, ← HS0.out, ← HW1.out, ← HS1.out, ← HW2.out]
  refine H51.out.mono ?_
  rintro e w3 ⟨rfl, hb3⟩
  have B3 : Hid (Below w.heap.size w w3) := B02.out.trans (hb3.mono B02.out.size)
  have E3 := Lib.hid (E2.out.on hb3)
  have X3 := Lib.hid (BX.out.on hb3)
  have kb3 := X3.out.kb
  have H51b := Lib.hid (labelRight_any (c := d) E3.out X3.out.lb.ents X3.out.lb.txt X3.out.lb.len)
  clear hb3 H51 ka
  by_cases hrb : ¬ RightL b
  · rw [decide_eq_false hrb] at H51b
    have HD : Hid (decide (FlowsO a b l) = false) := decide_eq_false fun h => hrb h.2.1
    clear hrb
    go_wp2_with fail
    refine H51b.out.mono ?_
    rintro e w4 ⟨rfl, hb4⟩
    have B4 : Hid (Below w.heap.size w w4) := B3.out.trans (hb4.mono B3.out.size)
    clear hb4
    go_wp2_with fail
    go_ret
    exact ⟨by rw [HD.out] <;> rfl, B4.out⟩
  replace hrb := Decidable.not_not.1 hrb
  rw [decide_eq_true hrb] at H51b
  have RB := Lib.hid hrb
  clear hrb
  go_wp2_with fail
  refine H51b.out.mono ?_
  rintro e w4 ⟨rfl, hb4⟩
  have B4 : Hid (Below w.heap.size w w4) := B3.out.trans (hb4.mono B3.out.size)
  have E4 := Lib.hid (E3.out.on hb4)
  have X4 := Lib.hid (X3.out.on hb4)
  have kl4 := X4.out.kl
  have H16 := Lib.hid (ownRight_any E4.out X4.out.sl)
  clear hb4 H51b kb3
  by_cases hol : ¬ OwnL l
  · rw [decide_eq_false hol] at H16
    have HD : Hid (decide (FlowsO a b l) = false) := decide_eq_false fun h => hol h.2.2.1
    clear hol
    go_wp2_with fail
    refine H16.out.mono ?_
    rintro e w5 ⟨rfl, hb5⟩
    have B5 : Hid (Below w.heap.size w w5) := B4.out.trans (hb5.mono B4.out.size)
    clear hb5
    go_wp2_with fail
    go_ret
    exact ⟨by rw [HD.out] <;> rfl, B5.out⟩
  replace hol := Decidable.not_not.1 hol
  rw [decide_eq_true hol] at H16
  have OL := Lib.hid hol
  clear hol
  go_wp2_with fail
  refine H16.out.mono ?_
  rintro e w5 ⟨rfl, hb5⟩
  have B5 : Hid (Below w.heap.size w w5) := B4.out.trans (hb5.mono B4.out.size)
  have X5 := Lib.hid (X4.out.on hb5)
  have ka5 := X5.out.ka
  have kb5 := X5.out.kb
  have hn8 : a.length + b.length ≤ 16 := by have h1 := RA.out.1; have h2 := RB.out.1; omega
  have hal : Below w5.heap.size w5 (w5.alloc (.cells #[.slice A a.length c, .slice B b.length d] 43)) := (Below.refl _ _).alloc (Nat.le_refl _) _
  have X5a := X5.out.on hal
  have H53 := Lib.hid (concat_any (w := w5.alloc (.cells #[.slice A a.length c, .slice B b.length d] 43)) (b := w5.heap.size) (o := 0) (by simp) (by simp) (by simp) X5a.la.ents X5a.lb.ents X5a.la.nil X5a.lb.nil (by omega))
  have HAL := Lib.hid hal
  clear hb5 H16 hal X5a kl4
  go_wp2_with fail
  refine H53.out.mono ?_
  rintro e w6 ⟨v, rfl, hrow, hb6⟩
  obtain ⟨K, hK⟩ : ∃ K, K = a ++ b := ⟨_, rfl⟩
  rw [← hK] at hrow
  obtain ⟨A', c', rfl, _, hents⟩ := hrow.ents
  have hll : K.length ≤ 16 := by rw [hK, List.length_append]; exact hn8
  have B6 : Hid (Below w5.heap.size w5 w6) := HAL.out.trans (hb6.mono HAL.out.size)
  have H52 := Lib.hid (everyE_any (c := c') (X5.out.on B6.out) (by omega) (by omega) hents (by omega))
  have HD : Hid (decide (FlowsO a b l) = decide (∀ e ∈ K, FlowE a b l e.1)) := decide_eq_decide.2 ⟨fun h => by rw [hK]; exact h.2.2.2, fun h => ⟨RA.out, RB.out, OL.out, by rw [hK] at h; exact h⟩⟩
  rw [← HD.out] at H52
  clear hb6 hrow hents H53 hK ka5 kb5
  go_wp2_with fail
  refine H52.out.mono ?_
  rintro e w7 ⟨rfl, hb7⟩
  have B7 : Hid (Below w.heap.size w w7) := B5.out.trans ((B6.out.trans (hb7.mono B6.out.size)).mono B5.out.size)
  clear hb7 H52
  go_wp2_with fail
  go_ret
  exact ⟨rfl, B7.out⟩

theorem sees_any {w : World} {A B L : Option Addr} {c d cl : Nat} {a b : List Ent} {l : List (List UInt8)} (he : Env w) (ha : Lab w A c a) (hb : Lab w B d b) (hl : SL w L cl l) :
    Calls Tryz.prog 27 #[.slice A a.length c, .slice B b.length d, .slice L l.length cl] w (RetB w (.bool (decide (FlowsO a b l)))) := by
  have H := Lib.hid (flowsO_any he ha hb hl)
  clear he ha hb hl
  go_enter Tryz.func27, Tryz.ntmps27
  go_wp2_with fail
  refine H.out.mono ?_
  rintro e w1 ⟨rfl, hb1⟩
  have B1 := Lib.hid hb1
  clear hb1
  go_wp2_with fail
  go_ret
  exact ⟨rfl, B1.out⟩

set_option maxRecDepth 100000 in
theorem alters_any {w : World} {A B L : Option Addr} {c d cl : Nat} {a b : List Ent} {l : List (List UInt8)} (he : Env w) (ha : Lab w A c a) (hb : Lab w B d b) (hl : SL w L cl l) :
    Calls Tryz.prog 28 #[.slice A a.length c, .slice B b.length d, .slice L l.length cl] w (RetB w (.bool (decide (AltersO a b l)))) := by
  have HE := Lib.hid he
  have HA := Lib.hid ha
  have HB := Lib.hid hb
  have HL := Lib.hid hl
  have H27 := Lib.hid (sees_any he ha hb hl)
  clear he ha hb hl
  by_cases hf : ¬ FlowsO a b l
  · rw [decide_eq_false hf] at H27
    have HD : Hid (decide (AltersO a b l) = false) := decide_eq_false fun h => hf h.1
    clear hf
    go_enter Tryz.func28, Tryz.ntmps28
    go_wp2_with fail
    refine H27.out.mono ?_
    rintro e w1 ⟨rfl, hb1⟩
    have B1 := Lib.hid hb1
    clear hb1
    go_wp2_with fail
    go_ret
    exact ⟨by rw [HD.out] <;> rfl, B1.out⟩
  replace hf := Decidable.not_not.1 hf
  rw [decide_eq_true hf] at H27
  have HD : Hid (decide (AltersO a b l) = decide (FlowsO b a l)) := decide_eq_decide.2 ⟨fun h => h.2, fun h => ⟨hf, h⟩⟩
  clear hf
  go_enter Tryz.func28, Tryz.ntmps28
  go_wp2_with fail
  refine H27.out.mono ?_
  rintro e w1 ⟨rfl, hb1⟩
  have B1 := Lib.hid hb1
  have H25 := Lib.hid (flowsO_any (HE.out.on hb1) (HB.out.on hb1) (HA.out.on hb1) (HL.out.on hb1))
  rw [← HD.out] at H25
  clear hb1 H27
  go_wp2_with fail
  refine H25.out.mono ?_
  rintro e w2 ⟨rfl, hb2⟩
  have B2 : Hid (Below w.heap.size w w2) := B1.out.trans (hb2.mono B1.out.size)
  clear hb2 H25
  go_wp2_with fail
  go_ret
  exact ⟨rfl, B2.out⟩
end Go.Proofs.YtglidfmgechneaaGreatDoor
