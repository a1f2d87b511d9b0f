/- LabelFlows, walked. -/
import Derived.Test.YtpokdihnimlgkaaGreatDoorFi
import Derived.Test.YtpokdihnimlgkaaGreatDoorLo
import Derived.Test.YtpokdihnimlgkaaGreatDoorRj
import Derived.Test.YtpokdihnimlgkaaGreatDoorRk
import Derived.Test.YtpokdihnimlgkaaGreatDoorRl
namespace Go.Proofs.YtpokdihnimlgkaaGreatDoor
open Go.RowKit

set_option maxRecDepth 100000 in
set_option maxHeartbeats 2000000 in
theorem flowsLaw_any {w : World} {A B : Option Addr} {c d : Nat} {a b : List Ent} (he : Env w) (ha : Ents w w.heap.size A a) (hb : Ents w w.heap.size B b) (na : A = none → c = 0) (nb : B = none → d = 0)
    (hxa : ∀ e ∈ a, e.1.length ≤ maxLen) (hxb : ∀ e ∈ b, e.1.length ≤ maxLen) (hla : a.length ≤ maxLen) (hlb : b.length ≤ maxLen) :
    Calls Tryz.prog 4 #[.slice A a.length c, .slice B b.length d] w (Fine w) := by
  have H7 := Lib.hid (first_any he)
  have HE := Lib.hid he
  have HA := Lib.hid ha
  have HB := Lib.hid hb
  have HXA := Lib.hid hxa
  have HXB := Lib.hid hxb
  clear he ha hb hxa hxb
  go_enter Tryz.func4, Tryz.ntmps4
  go_wp2_with fail
  refine H7.out.mono ?_
  rintro e w1 ⟨rfl, hb1⟩
  have B1 := Lib.hid hb1
  have E1 := Lib.hid (HE.out.on hb1)
  have A1 := Lib.hid ((HA.out.below hb1).more hb1.size)
  have C1 := Lib.hid ((HB.out.below hb1).more hb1.size)
  have H8 := Lib.hid (long_any (c := c) A1.out HXA.out hla)
  clear hb1 H7
  go_wp2_with fail
  refine H8.out.mono ?_
  rintro e w2 ⟨rfl, hb2⟩
  have B2 : Hid (Below w.heap.size w w2) := B1.out.trans (hb2.mono B1.out.size)
  have E2 := Lib.hid (E1.out.on hb2)
  have A2 := Lib.hid ((A1.out.below hb2).more hb2.size)
  have C2 := Lib.hid ((C1.out.below hb2).more hb2.size)
  clear hb2 H8
  by_cases hsa : ¬ Short a
  · rw [decide_eq_true hsa]
    go_wp2_with fail
    go_ret
    exact ⟨rfl, B2.out⟩
  replace hsa := Decidable.not_not.1 hsa
  rw [decide_eq_false (fun h => h hsa)]
  have H8b := Lib.hid (long_any (c := d) C2.out HXB.out hlb)
  go_wp2_with fail
  refine H8b.out.mono ?_
  rintro e w3 ⟨rfl, hb3⟩
  have B3 : Hid (Below w.heap.size w w3) := B2.out.trans (hb3.mono B2.out.size)
  have E3 := Lib.hid (E2.out.on hb3)
  have A3 := Lib.hid ((A2.out.below hb3).more hb3.size)
  have C3 := Lib.hid ((C2.out.below hb3).more hb3.size)
  clear hb3 H8b
  by_cases hsb : ¬ Short b
  · rw [decide_eq_true hsb]
    go_wp2_with fail
    go_ret
    exact ⟨rfl, B3.out⟩
  replace hsb := Decidable.not_not.1 hsb
  rw [decide_eq_false (fun h => h hsb)]
  have LA3 : Hid (Lab w3 A c a) := ⟨A3.out, na, fun e h => Nat.le_trans (hsa.2 e h) (by omega), hla⟩
  have LB3 : Hid (Lab w3 B d b) := ⟨C3.out, nb, fun e h => Nat.le_trans (hsb.2 e h) (by omega), hlb⟩
  have SA : Hid (∀ e ∈ a, e.1.length ≤ 100000) := fun e h => Nat.le_trans (hsa.2 e h) (by omega)
  have SB : Hid (∀ e ∈ b, e.1.length ≤ 100000) := fun e h => Nat.le_trans (hsb.2 e h) (by omega)
  have ha30 : a.length ≤ 100000 := by have := hsa.1; omega
  have hb30 : b.length ≤ 100000 := by have := hsb.1; omega
  have H23 := Lib.hid (labelJoin_any E3.out LA3.out LB3.out)
  clear hsa hsb A3 C3 A2 C2 A1 C1
  go_wp2_with fail
  refine H23.out.mono ?_
  rintro e w4 ⟨hb4, J1, k1, j1, z1, hq1, rfl, hl1⟩
  have B4 : Hid (Below w.heap.size w w4) := B3.out.trans (hb4.mono B3.out.size)
  have E4 := Lib.hid (E3.out.on hb4)
  have LA4 := Lib.hid (LA3.out.on hb4)
  have LB4 := Lib.hid (LB3.out.on hb4)
  have LJ4 := Lib.hid hl1
  have Q1 := Lib.hid hq1
  have H24 := Lib.hid (refMixHi_any LA4.out LB4.out SA.out SB.out)
  clear hb4 hq1 hl1 H23
  go_wp2_with fail
  refine H24.out.mono ?_
  rintro e w5 ⟨hb5, J2, k2, j2, z2, hq2, rfl, hl2⟩
  obtain ⟨rfl, rfl⟩ := Q1.out.uniq hq2
  have B5 : Hid (Below w.heap.size w w5) := B4.out.trans (hb5.mono B4.out.size)
  have E5 := Lib.hid (E4.out.on hb5)
  have LA5 := Lib.hid (LA4.out.on hb5)
  have LB5 := Lib.hid (LB4.out.on hb5)
  have LJ5 := Lib.hid (LJ4.out.on hb5)
  have LX5 := Lib.hid hl2
  have H25 := Lib.hid (labelMeet_any E5.out LA5.out LB5.out)
  clear hb5 hq2 hl2 H24
  go_wp2_with fail
  refine H25.out.mono ?_
  rintro e w6 ⟨hb6, J3, k3, j3, z3, hq3, rfl, hl3⟩
  have B6 : Hid (Below w.heap.size w w6) := B5.out.trans (hb6.mono B5.out.size)
  have E6 := Lib.hid (E5.out.on hb6)
  have LA6 := Lib.hid (LA5.out.on hb6)
  have LB6 := Lib.hid (LB5.out.on hb6)
  have LJ6 := Lib.hid (LJ5.out.on hb6)
  have LX6 := Lib.hid (LX5.out.on hb6)
  have LM6 := Lib.hid hl3
  have Q3 := Lib.hid hq3
  have H24b := Lib.hid (refMixLo_any LA6.out LB6.out SA.out SB.out)
  clear hb6 hq3 hl3 H25
  go_wp2_with fail
  refine H24b.out.mono ?_
  rintro e w7 ⟨hb7, J4, k4, j4, z4, hq4, rfl, hl4⟩
  obtain ⟨rfl, rfl⟩ := Q3.out.uniq hq4
  have B7 : Hid (Below w.heap.size w w7) := B6.out.trans (hb7.mono B6.out.size)
  have E7 := Lib.hid (E6.out.on hb7)
  have LA7 := Lib.hid (LA6.out.on hb7)
  have LB7 := Lib.hid (LB6.out.on hb7)
  have LJ7 := Lib.hid (LJ6.out.on hb7)
  have LX7 := Lib.hid (LX6.out.on hb7)
  have LM7 := Lib.hid (LM6.out.on hb7)
  have LY7 := Lib.hid hl4
  obtain ⟨q, hq⟩ : ∃ q, q = decide (FlowsL a b) := ⟨_, rfl⟩
  have H26 := Lib.hid (flows_any E7.out LA7.out LB7.out)
  rw [← hq] at H26
  have HQ := Lib.hid hq
  clear hb7 hq4 hl4 H24b hq
  have hj1 : j1.length ≤ 1000000 := by
    rcases Q1.out with ⟨_, h, _⟩ | ⟨_, _, h⟩
    · rw [h]; simp
    · rcases h with ⟨_, h, _⟩ | ⟨_, m', _, ⟨_, h, _⟩ | ⟨h5, h, _⟩⟩
      · rw [h]; simp
      · rw [h]; simp
      · rw [h]; omega
  have hj3 : j3.length ≤ 1000000 := by
    rcases Q3.out with ⟨_, h, _⟩ | ⟨_, _, h⟩
    · rw [h]; simp
    · rcases h with ⟨_, h, _⟩ | ⟨_, m', _, ⟨_, h, _⟩ | ⟨h5, h, _⟩⟩
      · rw [h]; simp
      · rw [h]; simp
      · rw [h]; omega
  go_wp2_with fail
  refine H26.out.mono ?_
  rintro e w8 ⟨rfl, hb8⟩
  have B8 : Hid (Below w.heap.size w w8) := B7.out.trans (hb8.mono B7.out.size)
  have LA8 := Lib.hid (LA7.out.on hb8)
  have LB8 := Lib.hid (LB7.out.on hb8)
  have LJ8 := Lib.hid (LJ7.out.on hb8)
  have LX8 := Lib.hid (LX7.out.on hb8)
  have LM8 := Lib.hid (LM7.out.on hb8)
  have LY8 := Lib.hid (LY7.out.on hb8)
  have H27 := Lib.hid (refFlows_any (c := c) (d := d) LA8.out.ents LB8.out.ents SA.out SB.out ha30 hb30)
  rw [← HQ.out] at H27
  clear hb8 H26
  go_wp2_with fail
  refine H27.out.mono ?_
  rintro e w9 ⟨rfl, hb9⟩
  have B9 : Hid (Below w.heap.size w w9) := B8.out.trans (hb9.mono B8.out.size)
  have LJ9 := Lib.hid (LJ8.out.on hb9)
  have LX9 := Lib.hid (LX8.out.on hb9)
  have LM9 := Lib.hid (LM8.out.on hb9)
  have LY9 := Lib.hid (LY8.out.on hb9)
  have H17 := Lib.hid (refSame_any (c := k1) (c' := k2) LJ9.out.ents LX9.out.ents hj1)
  rw [decide_eq_true rfl] at H17
  clear hb9 H27
  go_wp2_with fail
  refine H17.out.mono ?_
  rintro e w10 ⟨rfl, hb10⟩
  have B10 : Hid (Below w.heap.size w w10) := B9.out.trans (hb10.mono B9.out.size)
  have LM10 := Lib.hid (LM9.out.on hb10)
  have LY10 := Lib.hid (LY9.out.on hb10)
  have H17b := Lib.hid (refSame_any (c := k3) (c' := k4) LM10.out.ents LY10.out.ents hj3)
  rw [decide_eq_true rfl] at H17b
  clear hb10 H17
  go_wp2_with fail
  refine H17b.out.mono ?_
  rintro e w11 ⟨rfl, hb11⟩
  have B11 : Hid (Below w.heap.size w w11) := B10.out.trans (hb11.mono B10.out.size)
  clear hb11 H17b
  go_wp2_with fail
  go_ret
  exact ⟨rfl, B11.out⟩
end Go.Proofs.YtpokdihnimlgkaaGreatDoor
