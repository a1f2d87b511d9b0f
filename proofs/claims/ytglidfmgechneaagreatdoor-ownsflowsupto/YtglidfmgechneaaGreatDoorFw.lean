/- OwnsFlows, walked. -/
import Derived.Test.YtglidfmgechneaaGreatDoorFi
import Derived.Test.YtglidfmgechneaaGreatDoorLo
import Derived.Test.YtglidfmgechneaaGreatDoorRh
namespace Go.Proofs.YtglidfmgechneaaGreatDoor
open Go.RowKit

theorem sl_of {w : World} {A : Option Addr} {c : Nat} {l : List (List UInt8)} (h : Strs w w.heap.size A l) (h0 : A = none → c = 0) (hs : ShortS l) : SL w A c l :=
  ⟨h, h0, fun x hx => Nat.le_trans (hs.2 x hx) (by omega), Nat.le_trans hs.1 (by omega)⟩
theorem rl_of {w : World} {A : Option Addr} {c : Nat} {l : List (List UInt8)} (h : Strs w w.heap.size A l) (h0 : A = none → c = 0) (hs : ShortS l) : RL w A c l :=
  ⟨h, h0, fun x hx => Nat.le_trans (hs.2 x hx) (by omega), Nat.le_trans hs.1 (by omega)⟩

set_option maxRecDepth 100000 in
set_option maxHeartbeats 2000000 in
theorem ownsFlows_any {w : World} {A B L : Option Addr} {c d cl : Nat} {a b : List Ent} {l : List (List UInt8)} (he : Env w) (ha : Ents w w.heap.size A a) (hA : A = none → c = 0) (hxa : ∀ e ∈ a, e.1.length ≤ 1048576) (hna : a.length ≤ maxLen)
    (hb : Ents w w.heap.size B b) (hB : B = none → d = 0) (hxb : ∀ e ∈ b, e.1.length ≤ 1048576) (hnb : b.length ≤ maxLen) (hl : Strs w w.heap.size L l) (hL : L = none → cl = 0) (hxl : ∀ x ∈ l, x.length ≤ maxLen) (hnl : l.length ≤ maxLen) :
    Calls Tryz.prog 4 #[.slice A a.length c, .slice B b.length d, .slice L l.length cl] w (Fine w) := by
  have H7 := Lib.hid (first_any he)
  have HE := Lib.hid he
  have HA : Hid (Lab w A c a) := ⟨ha, hA, fun e h => Nat.le_trans (hxa e h) (by omega), hna⟩
  have HB : Hid (Lab w B d b) := ⟨hb, hB, fun e h => Nat.le_trans (hxb e h) (by omega), hnb⟩
  have HL := Lib.hid hl
  have HXA := Lib.hid hxa
  have HXB := Lib.hid hxb
  have HXL := Lib.hid hxl
  clear he ha hb hxa hxb hl hxl hA hB
  go_enter Tryz.func4, Tryz.ntmps4
  go_wp2_with fail
  refine H7.out.mono ?_
  rintro e w1 ⟨rfl, hb1⟩
  have B1 := Lib.hid hb1
  have E1 := Lib.hid (HE.out.on hb1)
  have A1 := Lib.hid (HA.out.on hb1)
  have C1 := Lib.hid (HB.out.on hb1)
  have L1 := Lib.hid ((HL.out.below hb1).more hb1.size)
  have H8 := Lib.hid (long_any (c := cl) L1.out HXL.out hnl)
  unfold maxLen at hna hnb
  clear hb1 H7
  by_cases hsl : ¬ ShortS l
  · rw [decide_eq_true hsl] at H8
    clear hsl
    go_wp2_with fail
    refine H8.out.mono ?_
    rintro e w' ⟨rfl, rfl⟩
    go_wp2_with fail
    go_ret
    exact ⟨rfl, B1.out⟩
  replace hsl := Decidable.not_not.1 hsl
  rw [decide_eq_false (fun h => h hsl)] at H8
  have SL1 := Lib.hid (sl_of L1.out hL hsl)
  have RL1 := Lib.hid (rl_of L1.out hL hsl)
  clear hsl hL
  go_wp2_with fail
  refine H8.out.mono ?_
  rintro e w' ⟨rfl, rfl⟩
  clear H8
  by_cases h30 : 30 < a.length
  · have hgt : (a.length : Int) > 30 := by omega
    go_wp2_with fail
    go_ret
    exact ⟨rfl, B1.out⟩
  have hga : ¬ (a.length : Int) > 30 := by omega
  by_cases h31 : 30 < b.length
  · have hgt : (b.length : Int) > 30 := by omega
    go_wp2_with fail
    go_ret
    exact ⟨rfl, B1.out⟩
  have hgb : ¬ (b.length : Int) > 30 := by omega
  have hna2 : a.length ≤ 1000 := by omega
  have hnb2 : b.length ≤ 1000 := by omega
  obtain ⟨x, hx⟩ : ∃ x, x = decide (FlowsO a b l) := ⟨_, rfl⟩
  obtain ⟨y, hy⟩ : ∃ y, y = decide (AltersO a b l) := ⟨_, rfl⟩
  have H25 : Hid (∀ W, Below w1.heap.size w1 W → Calls Tryz.prog 25 #[.slice A a.length c, .slice B b.length d, .slice L l.length cl] W fun e w' => e = .returned (.bool x) ∧ Below w1.heap.size w1 w') := fun W h => by
    rw [hx]
    exact (flowsO_any (E1.out.on h) (A1.out.on h) (C1.out.on h) (SL1.out.on h)).mono fun e w' h2 => ⟨h2.1, h.trans (h2.2.mono h.size)⟩
  have H26 : Hid (∀ W, Below w1.heap.size w1 W → Calls Tryz.prog 26 #[.slice A a.length c, .slice B b.length d, .slice L l.length cl] W fun e w' => e = .returned (.bool x) ∧ Below w1.heap.size w1 w') := fun W h => by
    rw [hx]
    exact (refFlowsO_any (A1.out.on h) (C1.out.on h) (RL1.out.on h) HXA.out HXB.out hna2 hnb2).mono fun e w' h2 => ⟨h2.1, h.trans (h2.2.mono h.size)⟩
  have H27 : Hid (∀ W, Below w1.heap.size w1 W → Calls Tryz.prog 27 #[.slice A a.length c, .slice B b.length d, .slice L l.length cl] W fun e w' => e = .returned (.bool x) ∧ Below w1.heap.size w1 w') := fun W h => by
    rw [hx]
    exact (sees_any (E1.out.on h) (A1.out.on h) (C1.out.on h) (SL1.out.on h)).mono fun e w' h2 => ⟨h2.1, h.trans (h2.2.mono h.size)⟩
  have H28 : Hid (∀ W, Below w1.heap.size w1 W → Calls Tryz.prog 28 #[.slice A a.length c, .slice B b.length d, .slice L l.length cl] W fun e w' => e = .returned (.bool y) ∧ Below w1.heap.size w1 w') := fun W h => by
    rw [hy]
    exact (alters_any (E1.out.on h) (A1.out.on h) (C1.out.on h) (SL1.out.on h)).mono fun e w' h2 => ⟨h2.1, h.trans (h2.2.mono h.size)⟩
  have H29 : Hid (∀ W, Below w1.heap.size w1 W → Calls Tryz.prog 29 #[.slice A a.length c, .slice B b.length d, .slice L l.length cl] W fun e w' => e = .returned (.bool y) ∧ Below w1.heap.size w1 w') := fun W h => by
    rw [hy]
    exact (refAlters_any (A1.out.on h) (C1.out.on h) (RL1.out.on h) HXA.out HXB.out hna2 hnb2).mono fun e w' h2 => ⟨h2.1, h.trans (h2.2.mono h.size)⟩
  have hxx : (x == x) = true := by simp
  have hyy : (y == y) = true := by simp
  clear hx hy h30 h31
  go_wp2_with fail
  refine (H25.out _ (Below.refl _ _)).mono ?_
  rintro e w2 ⟨rfl, hb2⟩
  go_wp2_with fail
  refine (H26.out _ hb2).mono ?_
  rintro e w3 ⟨rfl, hb3⟩
  clear hb2
  go_wp2_with fail
  refine (H27.out _ hb3).mono ?_
  rintro e w4 ⟨rfl, hb4⟩
  clear hb3
  go_wp2_with fail
  refine (H26.out _ hb4).mono ?_
  rintro e w5 ⟨rfl, hb5⟩
  clear hb4
  go_wp2_with fail
  refine (H28.out _ hb5).mono ?_
  rintro e w6 ⟨rfl, hb6⟩
  clear hb5
  go_wp2_with fail
  refine (H29.out _ hb6).mono ?_
  rintro e w7 ⟨rfl, hb7⟩
  have B7 : Hid (Below w.heap.size w w7) := B1.out.trans (hb7.mono B1.out.size)
  clear hb6 hb7
  go_wp2_with fail
  go_ret
  exact ⟨rfl, B7.out⟩
end Go.Proofs.YtglidfmgechneaaGreatDoor
