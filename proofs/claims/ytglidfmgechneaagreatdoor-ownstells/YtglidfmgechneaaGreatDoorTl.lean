/- OwnsTells, walked. -/
import Derived.Test.YtglidfmgechneaaGreatDoorFi
import Derived.Test.YtglidfmgechneaaGreatDoorLo
import Derived.Test.YtglidfmgechneaaGreatDoorRu
import Derived.Test.YtglidfmgechneaaGreatDoorRp
namespace Go.Proofs.YtglidfmgechneaaGreatDoor
open Go.RowKit

theorem sl_of {w : World} {A : Option Addr} {c : Nat} {l : List (List UInt8)} (h : Strs w w.heap.size A l) (h0 : A = none → c = 0) (hs : ShortS l) : SL w A c l :=
  ⟨h, h0, fun x hx => Nat.le_trans (hs.2 x hx) (by omega), Nat.le_trans hs.1 (by omega)⟩
theorem rl_of {w : World} {A : Option Addr} {c : Nat} {l : List (List UInt8)} (h : Strs w w.heap.size A l) (h0 : A = none → c = 0) (hs : ShortS l) : RL w A c l :=
  ⟨h, h0, fun x hx => Nat.le_trans (hs.2 x hx) (by omega), Nat.le_trans hs.1 (by omega)⟩
/-- A pen, just made. -/
theorem pen_made (w : World) : PenB (w.alloc (.cells #[.slice none 0 0] 35)) w.heap.size w.heap.size [] :=
  ⟨none, ⟨.slice none 0 0, by simp, by simp, rfl, World.ownsRow_nil _ _ _ _, by simp⟩, Nat.le_refl _, fun j h => by cases h⟩
theorem Strs.on {w w' : World} {A : Option Addr} {l : List (List UInt8)} (h : Strs w w.heap.size A l) (hb : Below w.heap.size w w') : Strs w' w'.heap.size A l := (h.below hb).more hb.size

set_option maxRecDepth 100000 in
set_option maxHeartbeats 8000000 in
theorem ownsTells_any {w : World} {A B : Option Addr} {c d : Nat} {a b : List (List UInt8)} {s : List UInt8} (he : Env w) (ha : Strs w w.heap.size A a) (hA : A = none → c = 0) (hxa : ∀ x ∈ a, x.length ≤ maxLen) (hna : a.length ≤ maxLen)
    (hb : Strs w w.heap.size B b) (hB : B = none → d = 0) (hxb : ∀ x ∈ b, x.length ≤ maxLen) (hnb : b.length ≤ maxLen) (hsl : s.length ≤ maxLen) :
    Calls Tryz.prog 3 #[.slice A a.length c, .slice B b.length d, .string (str s)] w (Fine w) := by
  have H7 := Lib.hid (first_any he)
  have HE := Lib.hid he
  have HA := Lib.hid ha
  have HB := Lib.hid hb
  have HXA := Lib.hid hxa
  have HXB := Lib.hid hxb
  have hss : (str s).size = s.length := str_size s
  unfold maxLen at hsl
  clear he ha hb hxa hxb
  go_enter Tryz.func3, Tryz.ntmps3
  go_wp2_with fail
  refine H7.out.mono ?_
  rintro e w1 ⟨rfl, hb1⟩
  have B1 := Lib.hid hb1
  have E1 := Lib.hid (HE.out.on hb1)
  have A1 := Lib.hid ((HA.out.below hb1).more hb1.size)
  have C1 := Lib.hid ((HB.out.below hb1).more hb1.size)
  have H8 := Lib.hid (long_any (c := c) A1.out HXA.out hna)
  have H8b := Lib.hid (long_any (c := d) C1.out HXB.out hnb)
  clear hb1 H7
  by_cases hsa : ¬ ShortS a
  · rw [decide_eq_true hsa] at H8
    clear hsa
    go_wp2_with fail
    refine H8.out.mono ?_
    rintro e w' ⟨rfl, rfl⟩
    go_wp2_with fail
    go_ret
    exact ⟨rfl, B1.out⟩
  replace hsa := Decidable.not_not.1 hsa
  rw [decide_eq_false (fun h => h hsa)] at H8
  go_wp2_with fail
  refine H8.out.mono ?_
  rintro e w' ⟨rfl, rfl⟩
  by_cases hsb : ¬ ShortS b
  · rw [decide_eq_true hsb] at H8b
    clear hsb
    go_wp2_with fail
    refine H8b.out.mono ?_
    rintro e w' ⟨rfl, rfl⟩
    go_wp2_with fail
    go_ret
    exact ⟨rfl, B1.out⟩
  replace hsb := Decidable.not_not.1 hsb
  rw [decide_eq_false (fun h => h hsb)] at H8b
  go_wp2_with fail
  refine H8b.out.mono ?_
  rintro e w' ⟨rfl, rfl⟩
  by_cases hso : 100 < s.length
  · have hgt : (s.length : Int) > 100 := by omega
    go_wp2_with fail
    go_ret
    exact ⟨rfl, B1.out⟩
  have hle : ¬ (s.length : Int) > 100 := by omega
  have hs2 : s.length ≤ 140737488351232 := by omega
  have SA1 := Lib.hid (sl_of A1.out hA hsa)
  have RA1 := Lib.hid (rl_of A1.out hA hsa)
  have SB1 := Lib.hid (sl_of C1.out hB hsb)
  have RB1 := Lib.hid (rl_of C1.out hB hsb)
  have HSA := Lib.hid hsa
  have hs3 : s.length ≤ 1048576 := by omega
  clear hso hsa hsb H8 H8b hA hB
  have HK1 := Lib.hid (add_any E1.out SA1.out hs2)
  go_wp2_with fail
  refine HK1.out.mono ?_
  rintro e w2 ⟨hb2, M, cm, m, zm, hq2, rfl, hl2⟩
  have Q1 := Lib.hid hq2
  have B2 : Hid (Below w.heap.size w w2) := B1.out.trans (hb2.mono B1.out.size)
  have E2 := Lib.hid (E1.out.on hb2)
  have SA2 := Lib.hid (SA1.out.on hb2)
  have SB2 := Lib.hid (SB1.out.on hb2)
  have RA2 := Lib.hid (RA1.out.on hb2)
  have RB2 := Lib.hid (RB1.out.on hb2)
  have SM2 := Lib.hid (show Strs w2 w2.heap.size M m from hl2.strs)
  clear hb2 hq2 hl2 HK1
  have HK2 := Lib.hid (refAdd_any RA2.out hs3)
  go_wp2_with fail
  refine HK2.out.mono ?_
  rintro e w3 ⟨hb3, X, cx, R3, z3, hq3, rfl, hl3⟩
  obtain ⟨rfl, rfl⟩ := Q1.out.uniq hq3
  have B3 : Hid (Below w.heap.size w w3) := B2.out.trans (hb3.mono B2.out.size)
  have E3 := Lib.hid (E2.out.on hb3)
  have SA3 := Lib.hid (SA2.out.on hb3)
  have SB3 := Lib.hid (SB2.out.on hb3)
  have RA3 := Lib.hid (RA2.out.on hb3)
  have RB3 := Lib.hid (RB2.out.on hb3)
  have SM3 := Lib.hid (SM2.out.on hb3)
  have SX3 := Lib.hid (show Strs w3 w3.heap.size X m from hl3)
  clear hb3 hq3 hl3 HK2
  have HK3 := Lib.hid (drop_any E3.out SA3.out hs2)
  go_wp2_with fail
  refine HK3.out.mono ?_
  rintro e w4 ⟨hb4, D, cd, n, zn, hq4, rfl, hl4⟩
  have Q2 := Lib.hid hq4
  have B4 : Hid (Below w.heap.size w w4) := B3.out.trans (hb4.mono B3.out.size)
  have E4 := Lib.hid (E3.out.on hb4)
  have SA4 := Lib.hid (SA3.out.on hb4)
  have SB4 := Lib.hid (SB3.out.on hb4)
  have RA4 := Lib.hid (RA3.out.on hb4)
  have RB4 := Lib.hid (RB3.out.on hb4)
  have SM4 := Lib.hid (SM3.out.on hb4)
  have SX4 := Lib.hid (SX3.out.on hb4)
  have SD4 := Lib.hid (show Strs w4 w4.heap.size D n from hl4.strs)
  clear hb4 hq4 hl4 HK3
  have HK4 := Lib.hid (refDrop_any RA4.out hs3)
  go_wp2_with fail
  refine HK4.out.mono ?_
  rintro e w5 ⟨hb5, Y, cy, R5, z5, hq5, rfl, hl5⟩
  obtain ⟨rfl, rfl⟩ := Q2.out.uniq hq5
  have B5 : Hid (Below w.heap.size w w5) := B4.out.trans (hb5.mono B4.out.size)
  have E5 := Lib.hid (E4.out.on hb5)
  have SA5 := Lib.hid (SA4.out.on hb5)
  have SB5 := Lib.hid (SB4.out.on hb5)
  have RA5 := Lib.hid (RA4.out.on hb5)
  have RB5 := Lib.hid (RB4.out.on hb5)
  have SM5 := Lib.hid (SM4.out.on hb5)
  have SX5 := Lib.hid (SX4.out.on hb5)
  have SD5 := Lib.hid (SD4.out.on hb5)
  have SY5 := Lib.hid (show Strs w5 w5.heap.size Y n from hl5)
  clear hb5 hq5 hl5 HK4
  have HK5 := Lib.hid (union_any E5.out SA5.out SB5.out)
  go_wp2_with fail
  refine HK5.out.mono ?_
  rintro e w6 ⟨hb6, U, cu, u, zu, hq6, rfl, hl6⟩
  have Q3 := Lib.hid hq6
  have B6 : Hid (Below w.heap.size w w6) := B5.out.trans (hb6.mono B5.out.size)
  have E6 := Lib.hid (E5.out.on hb6)
  have SA6 := Lib.hid (SA5.out.on hb6)
  have SB6 := Lib.hid (SB5.out.on hb6)
  have RA6 := Lib.hid (RA5.out.on hb6)
  have RB6 := Lib.hid (RB5.out.on hb6)
  have SM6 := Lib.hid (SM5.out.on hb6)
  have SX6 := Lib.hid (SX5.out.on hb6)
  have SD6 := Lib.hid (SD5.out.on hb6)
  have SY6 := Lib.hid (SY5.out.on hb6)
  have SU6 := Lib.hid (show Strs w6 w6.heap.size U u from hl6.strs)
  clear hb6 hq6 hl6 HK5
  have HK6 := Lib.hid (refUnion_any RA6.out RB6.out)
  go_wp2_with fail
  refine HK6.out.mono ?_
  rintro e w7 ⟨hb7, Z, cz, R7, z7, hq7, rfl, hl7⟩
  obtain ⟨rfl, rfl⟩ := Q3.out.uniq hq7
  have B7 : Hid (Below w.heap.size w w7) := B6.out.trans (hb7.mono B6.out.size)
  have E7 := Lib.hid (E6.out.on hb7)
  have SA7 := Lib.hid (SA6.out.on hb7)
  have SB7 := Lib.hid (SB6.out.on hb7)
  have RA7 := Lib.hid (RA6.out.on hb7)
  have RB7 := Lib.hid (RB6.out.on hb7)
  have SM7 := Lib.hid (SM6.out.on hb7)
  have SX7 := Lib.hid (SX6.out.on hb7)
  have SD7 := Lib.hid (SD6.out.on hb7)
  have SY7 := Lib.hid (SY6.out.on hb7)
  have SU7 := Lib.hid (SU6.out.on hb7)
  have SZ7 := Lib.hid (show Strs w7 w7.heap.size Z u from hl7)
  clear hb7 hq7 hl7 HK6
  have hm8 := Q1.out.len.1
  have hn8 := Q2.out.len.1
  have hu8 := Q3.out.len.1
  have h30 := HSA.out.1
  have SL3 : Hid (∀ x ∈ a, x.length ≤ 3000) := fun e h => Nat.le_trans (HSA.out.2 e h) (by omega)
  obtain ⟨N, hN⟩ : ∃ N, N = w7.heap.size := ⟨_, rfl⟩
  obtain ⟨W5, hW5⟩ : ∃ W5, W5 = w7.alloc (.cells #[.slice none 0 0] 35) := ⟨_, rfl⟩
  have hb5 : Below N w7 W5 := by rw [hW5, hN]; exact (Below.refl _ _).alloc (Nat.le_refl _) _
  have hs5 : N ≤ W5.heap.size := by rw [hN]; exact hb5.size
  have hp5 : PenB W5 N N [] := by rw [hW5, hN]; exact pen_made w7
  have hA4 : Strs w7 N A a := by rw [hN]; exact SA7.out.strs
  have H15 := Lib.hid (put_any (c := c) hp5 hs5 (hA4.below hb5) h30 SL3.out)
  have HW5 := Lib.hid hW5
  have HN := Lib.hid hN
  have B10 := Lib.hid hb5
  clear hW5 hN hb5 hs5 hp5 hA4
  go_wp2_with fail
  rw [← HW5.out, ← HN.out]
  refine H15.out.mono ?_
  rintro e wb ⟨rfl, hp11, hb11⟩
  have BB : Below w7.heap.size w7 wb := by rw [← HN.out]; exact B10.out.trans hb11
  have Eb := Lib.hid (E7.out.on BB)
  have SAb := Lib.hid (SA7.out.on BB)
  have SBb := Lib.hid (SB7.out.on BB)
  have RAb := Lib.hid (RA7.out.on BB)
  have RBb := Lib.hid (RB7.out.on BB)
  have SMb := Lib.hid (SM7.out.on BB)
  have SXb := Lib.hid (SX7.out.on BB)
  have SDb := Lib.hid (SD7.out.on BB)
  have SYb := Lib.hid (SY7.out.on BB)
  have SUb := Lib.hid (SU7.out.on BB)
  have SZb := Lib.hid (SZ7.out.on BB)
  have HPb := Lib.hid hp11
  have BW : Hid (Below w.heap.size w wb) := B7.out.trans (BB.mono B7.out.size)
  clear hb11 hp11 BB H15 HW5 B10 HN
  obtain ⟨lb, hlb⟩ : ∃ lb, lb = ownBytes a := ⟨_, rfl⟩
  have hlbl : lb.length ≤ 900000 := by
    have h1 := Tp.enc_nine (n := a.length) (by omega)
    have h2 := flatC_len a SL3.out
    rw [hlb]
    unfold ownBytes
    rw [List.length_append]
    omega
  rw [← hlb] at HPb
  have HLB := Lib.hid hlb
  obtain ⟨q, hq⟩ : ∃ q, q = decide (OwnL a) := ⟨_, rfl⟩
  obtain ⟨r, hr⟩ : ∃ r, r = decide (s ∈ a) := ⟨_, rfl⟩
  obtain ⟨t, ht⟩ : ∃ t, t = decide (WithinL a b) := ⟨_, rfl⟩
  have H16 : Hid (∀ W, Below wb.heap.size wb W → Calls Tryz.prog 16 #[.slice A a.length c] W fun e w' => e = .returned (.bool q) ∧ Below wb.heap.size wb w') := fun W h => by
    rw [hq]
    exact (ownRight_any (Eb.out.on h) (SAb.out.on h)).mono fun e w' h2 => ⟨h2.1, h.trans (h2.2.mono h.size)⟩
  have H17 : Hid (∀ W, Below wb.heap.size wb W → Calls Tryz.prog 17 #[.slice A a.length c] W fun e w' => e = .returned (.bool q) ∧ Below wb.heap.size wb w') := fun W h => by
    rw [hq]
    exact (refRightO_any (RAb.out.on h).strs (RAb.out.on h).txt (RAb.out.on h).len).mono fun e w' h2 => ⟨h2.1, h.trans (h2.2.mono h.size)⟩
  have H18 : Hid (∀ W, Below wb.heap.size wb W → Calls Tryz.prog 18 #[.slice A a.length c, .string (str s)] W fun e w' => e = .returned (.bool r) ∧ Below wb.heap.size wb w') := fun W h => by
    rw [hr]
    exact (has_any (SAb.out.on h).strs (SAb.out.on h).len).mono fun e w' h2 => ⟨h2.1, by rw [← h2.2]; exact h⟩
  have H19 : Hid (∀ W, Below wb.heap.size wb W → Calls Tryz.prog 19 #[.slice A a.length c, .string (str s)] W fun e w' => e = .returned (.bool r) ∧ Below wb.heap.size wb w') := fun W h => by
    rw [hr]
    exact (refHas_any (SAb.out.on h).strs (SAb.out.on h).len).mono fun e w' h2 => ⟨h2.1, by rw [← h2.2]; exact h⟩
  have H20 : Hid (∀ W, Below wb.heap.size wb W → Calls Tryz.prog 20 #[.slice A a.length c, .slice B b.length d] W fun e w' => e = .returned (.bool t) ∧ Below wb.heap.size wb w') := fun W h => by
    rw [ht]
    exact (within_any (Eb.out.on h) (SAb.out.on h) (SBb.out.on h)).mono fun e w' h2 => ⟨h2.1, h.trans (h2.2.mono h.size)⟩
  have H21 : Hid (∀ W, Below wb.heap.size wb W → Calls Tryz.prog 21 #[.slice A a.length c, .slice B b.length d] W fun e w' => e = .returned (.bool t) ∧ Below wb.heap.size wb w') := fun W h => by
    rw [ht]
    exact (refWithin_any (RAb.out.on h) (RBb.out.on h)).mono fun e w' h2 => ⟨h2.1, h.trans (h2.2.mono h.size)⟩
  have H22a : Hid (∀ W, Below wb.heap.size wb W → Calls Tryz.prog 22 #[.slice M m.length cm, .slice X m.length cx] W fun e w' => e = .returned (.bool true) ∧ Below wb.heap.size wb w') := fun W h => by
    have h1 := (refSameO_any (c := cm) (c' := cx) (SMb.out.on h) (SXb.out.on h) (by omega)).mono fun e w' (h2 : RetB W _ e w') => (⟨h2.1, h.trans (h2.2.mono h.size)⟩ : e = .returned (.bool (decide (m = m))) ∧ Below wb.heap.size wb w')
    rwa [decide_eq_true rfl] at h1
  have H22b : Hid (∀ W, Below wb.heap.size wb W → Calls Tryz.prog 22 #[.slice D n.length cd, .slice Y n.length cy] W fun e w' => e = .returned (.bool true) ∧ Below wb.heap.size wb w') := fun W h => by
    have h1 := (refSameO_any (c := cd) (c' := cy) (SDb.out.on h) (SYb.out.on h) (by omega)).mono fun e w' (h2 : RetB W _ e w') => (⟨h2.1, h.trans (h2.2.mono h.size)⟩ : e = .returned (.bool (decide (n = n))) ∧ Below wb.heap.size wb w')
    rwa [decide_eq_true rfl] at h1
  have H22c : Hid (∀ W, Below wb.heap.size wb W → Calls Tryz.prog 22 #[.slice U u.length cu, .slice Z u.length cz] W fun e w' => e = .returned (.bool true) ∧ Below wb.heap.size wb w') := fun W h => by
    have h1 := (refSameO_any (c := cu) (c' := cz) (SUb.out.on h) (SZb.out.on h) (by omega)).mono fun e w' (h2 : RetB W _ e w') => (⟨h2.1, h.trans (h2.2.mono h.size)⟩ : e = .returned (.bool (decide (u = u))) ∧ Below wb.heap.size wb w')
    rwa [decide_eq_true rfl] at h1
  have H23 : Hid (∀ W, Below wb.heap.size wb W → Calls Tryz.prog 23 #[.pointer (some ⟨N, 0, none⟩)] W fun e w' => ∃ A' c', e = .returned (.slice A' lb.length c') ∧ Tp.Bts w' w'.heap.size A' lb ∧ Below wb.heap.size wb w') := fun W h => by
    obtain ⟨k, hk, _, _⟩ := HPb.out.kept h
    exact (Tp.pen_bytes hk hlbl).mono fun e w' ⟨A', c', h1, h2, _, _, _, _, h3⟩ => ⟨A', c', h1, h2, h.trans (h3.mono h.size)⟩
  have H24 : Hid (∀ W, Below wb.heap.size wb W → Calls Tryz.prog 24 #[.slice A a.length c] W fun e w' => e = .returned (.string (Tp.str lb)) ∧ Below W.heap.size W w' ∧ Below wb.heap.size wb w') := fun W h => by
    rw [HLB.out]
    exact (refPut_any (SAb.out.on h).strs h30 SL3.out).mono fun e w' h2 => ⟨h2.1, h2.2, h.trans (h2.2.mono h.size)⟩
  clear hlb hq hr ht Eb SAb SBb RAb RBb SMb SXb SDb SYb SUb SZb HPb SL3 HLB Q1 Q2 Q3 HSA
  clear E1 SA1 SB1 RA1 RB1 B1
  clear E2 SA2 SB2 RA2 RB2 B2 SM2
  clear E3 SA3 SB3 RA3 RB3 B3 SM3 SX3
  clear E4 SA4 SB4 RA4 RB4 B4 SM4 SX4 SD4
  clear E5 SA5 SB5 RA5 RB5 B5 SM5 SX5 SD5 SY5
  clear E6 SA6 SB6 RA6 RB6 B6 SM6 SX6 SD6 SY6 SU6
  clear E7 SA7 SB7 RA7 RB7 B7 SM7 SX7 SD7 SY7 SU7 SZ7
  obtain ⟨S, hS⟩ : ∃ S, S = str s := ⟨_, rfl⟩
  rw [← hS] at H18 H19 ⊢
  obtain ⟨PS, hPS⟩ : ∃ PS, PS = Tp.str lb := ⟨_, rfl⟩
  rw [← hPS] at H24
  have HCV : Hid (∀ (W : World) (B : Nat) (A' : Option Addr) (c' : Nat), Tp.Bts W B A' lb → (convert 33 9 (.slice A' lb.length c')).run Tryz.prog W = .ok (.string PS) W) := fun W B A' c' h => by
    rw [hPS]
    exact Tp.conv_str h c'
  clear hS hPS hss
  obtain ⟨nb, hnb⟩ : ∃ nb, nb = lb.length := ⟨_, rfl⟩
  rw [← hnb] at H23 HCV
  have hqq : (q == q) = true := by simp
  have hrr : (r == r) = true := by simp
  have htt : (t == t) = true := by simp
  have z1 : ((zm : Int) == (zm : Int)) = true := by simp
  have z2 : ((zn : Int) == (zn : Int)) = true := by simp
  have z3 : ((zu : Int) == (zu : Int)) = true := by simp
  clear hnb
  go_wp2_with fail
  go_region_held (fun _ => True)
    (first
      | exact trivial
      | go_keep)
    (first
      | (go_at_call 16; refine (H16.out _ (Below.refl _ _).drew).mono ?_; rintro e W1 ⟨rfl, hB1⟩)
      | (go_at_call 17; refine (H17.out _ hB1).mono ?_; rintro e W2 ⟨rfl, hB2⟩)
      | (go_at_call 18; refine (H18.out _ hB2).mono ?_; rintro e W3 ⟨rfl, hB3⟩)
      | (go_at_call 19; refine (H19.out _ hB3).mono ?_; rintro e W4 ⟨rfl, hB4⟩)
      | (go_at_call 20; refine (H20.out _ hB4).mono ?_; rintro e W5 ⟨rfl, hB5⟩)
      | (go_at_call 21; refine (H21.out _ hB5).mono ?_; rintro e W6 ⟨rfl, hB6⟩)
      | (go_at_call 22; refine (H22c.out _ hB8).mono ?_; rintro e W9 ⟨rfl, hB9⟩)
      | (go_at_call 22; refine (H22b.out _ hB7).mono ?_; rintro e W8 ⟨rfl, hB8⟩)
      | (go_at_call 22; refine (H22a.out _ hB6).mono ?_; rintro e W7 ⟨rfl, hB7⟩)
      | (go_at_call 23; refine (H23.out _ hB9).mono ?_; rintro e W10 ⟨A9, c9, rfl, hbt, hB10⟩; have cv9 := HCV.out _ _ _ c9 hbt)
      | (go_at_call 24; refine (H24.out _ hB10).mono ?_; rintro e W11 ⟨rfl, hloc, hB11⟩; have cv10 := HCV.out _ _ _ c9 (hbt.below hloc)))
  all_goals (
    have BF : Hid (Below w.heap.size w W11) := BW.out.trans (hB11.mono BW.out.size)
    clear hB1 hB2 hB3 hB4 hB5 hB6 hB7 hB8 hB9 hB10 hB11 hbt hloc cv9 cv10 H16 H17 H18 H19 H20 H21 H22a H22b H22c H23 H24 HCV
    go_wp2_with fail
    go_ret
    exact ⟨rfl, BF.out⟩)
end Go.Proofs.YtglidfmgechneaaGreatDoor
