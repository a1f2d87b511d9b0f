/- OwnsSets, walked. -/
import Derived.Test.YtglidfmgechneaaGreatDoorFi
import Derived.Test.YtglidfmgechneaaGreatDoorLo
import Derived.Test.YtglidfmgechneaaGreatDoorRg
namespace Go.Proofs.YtglidfmgechneaaGreatDoor
open Go.RowKit

theorem sl_of {w : World} {A : Option Addr} {c : Nat} {l : List (List UInt8)} (h : Strs w w.heap.size A l) (h0 : A = none → c = 0) (hs : ShortS l) : SL w A c l :=
  ⟨h, h0, fun x hx => Nat.le_trans (hs.2 x hx) (by omega), Nat.le_trans hs.1 (by omega)⟩

set_option maxRecDepth 100000 in
set_option maxHeartbeats 2000000 in
theorem ownsSets_any {w : World} {A B : Option Addr} {c d : Nat} {a b : List (List UInt8)} {s : List UInt8} (he : Env w) (ha : Strs w w.heap.size A a) (hA : A = none → c = 0) (hxa : ∀ x ∈ a, x.length ≤ maxLen) (hna : a.length ≤ maxLen)
    (hb : Strs w w.heap.size B b) (hB : B = none → d = 0) (hxb : ∀ x ∈ b, x.length ≤ maxLen) (hnb : b.length ≤ maxLen) (hsl : s.length ≤ maxLen) :
    Calls Tryz.prog 6 #[.slice A a.length c, .slice B b.length d, .string (str s)] w (Fine w) := by
  have H7 := Lib.hid (first_any he)
  have HE := Lib.hid he
  have HA := Lib.hid ha
  have HB := Lib.hid hb
  have HXA := Lib.hid hxa
  have HXB := Lib.hid hxb
  have hss : (str s).size = s.length := str_size s
  unfold maxLen at hsl
  clear he ha hb hxa hxb
  go_enter Tryz.func6, Tryz.ntmps6
  go_wp2_with fail
  refine H7.out.mono ?_
  rintro e w1 ⟨rfl, hb1⟩
  have B1 := Lib.hid hb1
  have E1 := Lib.hid (HE.out.on hb1)
  have A1 := Lib.hid ((HA.out.below hb1).more hb1.size)
  have C1 := Lib.hid ((HB.out.below hb1).more hb1.size)
  have H8 := Lib.hid (long_any (c := c) A1.out HXA.out hna)
  have H8b := Lib.hid (long_any (c := d) C1.out HXB.out hnb)
  clear hb1 H7
  by_cases hsa : ¬ ShortS a
  · rw [decide_eq_true hsa] at H8
    clear hsa
    go_wp2_with fail
    refine H8.out.mono ?_
    rintro e w' ⟨rfl, rfl⟩
    go_wp2_with fail
    go_ret
    exact ⟨rfl, B1.out⟩
  replace hsa := Decidable.not_not.1 hsa
  rw [decide_eq_false (fun h => h hsa)] at H8
  go_wp2_with fail
  refine H8.out.mono ?_
  rintro e w' ⟨rfl, rfl⟩
  by_cases hsb : ¬ ShortS b
  · rw [decide_eq_true hsb] at H8b
    clear hsb
    go_wp2_with fail
    refine H8b.out.mono ?_
    rintro e w' ⟨rfl, rfl⟩
    go_wp2_with fail
    go_ret
    exact ⟨rfl, B1.out⟩
  replace hsb := Decidable.not_not.1 hsb
  rw [decide_eq_false (fun h => h hsb)] at H8b
  go_wp2_with fail
  refine H8b.out.mono ?_
  rintro e w' ⟨rfl, rfl⟩
  by_cases hso : 100 < s.length
  · have hgt : (s.length : Int) > 100 := by omega
    go_wp2_with fail
    go_ret
    exact ⟨rfl, B1.out⟩
  have hle : ¬ (s.length : Int) > 100 := by omega
  have hs2 : s.length ≤ 140737488351232 := by omega
  have SA1 := Lib.hid (sl_of A1.out hA hsa)
  have SB1 := Lib.hid (sl_of C1.out hB hsb)
  have H9 := Lib.hid (add_any E1.out SA1.out hs2)
  clear hso hsa hsb H8 H8b hA hB
  go_wp2_with fail
  refine H9.out.mono ?_
  rintro e w2 ⟨hb2, A2, c2, R, z, hq, rfl, hsl2⟩
  have B2 : Hid (Below w.heap.size w w2) := B1.out.trans (hb2.mono B1.out.size)
  have E2 := Lib.hid (E1.out.on hb2)
  have SA2 := Lib.hid (SA1.out.on hb2)
  have SB2 := Lib.hid (SB1.out.on hb2)
  have SR2 := Lib.hid hsl2
  by_cases hz : ¬ z = 0
  · have hz1 : ((z : Int) == (0 : Int)) = false := by simpa using hz
    clear hb2 hq hsl2 H9 hz
    have H13 := Lib.hid (union_any E2.out SA2.out SB2.out)
    go_wp2_with fail
    refine H13.out.mono ?_
    rintro e u1 ⟨hbu1, Au, cu, U, z, hqu, rfl, hslu⟩
    have BU1 : Hid (Below w.heap.size w u1) := B2.out.trans (hbu1.mono B2.out.size)
    have EU1 := Lib.hid (E2.out.on hbu1)
    have AU1 := Lib.hid (SA2.out.on hbu1)
    have CU1 := Lib.hid (SB2.out.on hbu1)
    have SU1 := Lib.hid hslu
    have HQU := Lib.hid hqu
    have H13b := Lib.hid (union_any EU1.out CU1.out AU1.out)
    clear hbu1 hqu hslu H13
    go_wp2_with fail
    refine H13b.out.mono ?_
    rintro e u2 ⟨hbu2, Av, cv, V, z2, hqv, rfl, hslv⟩
    obtain ⟨rfl, rfl⟩ := hqv.uniq HQU.out.comm
    have BU2 : Hid (Below w.heap.size w u2) := BU1.out.trans (hbu2.mono BU1.out.size)
    have EU2 := Lib.hid (EU1.out.on hbu2)
    have AU2 := Lib.hid (AU1.out.on hbu2)
    have CU2 := Lib.hid (CU1.out.on hbu2)
    have SU2 := Lib.hid (SU1.out.on hbu2)
    have SV2 := Lib.hid hslv
    have hzz : ((z2 : Int) == (z2 : Int)) = true := by simp
    have H22 := Lib.hid (refSameO_any (c := cu) (c' := cv) SU2.out.strs SV2.out.strs SU2.out.len)
    rw [decide_eq_true rfl] at H22
    clear hbu2 hqv hslv H13b
    by_cases hz : ¬ z2 = 0
    · have hz1 : ((z2 : Int) == (0 : Int)) = false := by simpa using hz
      have hz2 : ((z2 : Int) != (0 : Int)) = true := by simpa using hz
      clear hz
      go_wp2_with fail
      refine H22.out.mono ?_
      rintro e u3 ⟨rfl, hbu3⟩
      have BU3 : Hid (Below w.heap.size w u3) := BU2.out.trans (hbu3.mono BU2.out.size)
      clear hbu3 H22
      go_wp2_with fail
      go_ret
      exact ⟨rfl, BU3.out⟩
    replace hz := Decidable.not_not.1 hz
    subst hz
    obtain ⟨hoa, hob, hou, hmu⟩ := HQU.out.ok
    have W1 : Hid (decide (WithinL a V) = true) := decide_eq_true ⟨hoa, hou, fun x hx => (hmu x).2 (.inl hx)⟩
    have W2 : Hid (decide (WithinL b V) = true) := decide_eq_true ⟨hob, hou, fun x hx => (hmu x).2 (.inr hx)⟩
    clear hoa hob hou hmu hzz
    go_wp2_with fail
    refine H22.out.mono ?_
    rintro e u3 ⟨rfl, hbu3⟩
    have BU3 : Hid (Below w.heap.size w u3) := BU2.out.trans (hbu3.mono BU2.out.size)
    have H20 := Lib.hid (within_any (EU2.out.on hbu3) (AU2.out.on hbu3) (SU2.out.on hbu3))
    rw [W1.out] at H20
    have EU3 := Lib.hid (EU2.out.on hbu3)
    have CU3 := Lib.hid (CU2.out.on hbu3)
    have SU3 := Lib.hid (SU2.out.on hbu3)
    clear hbu3 H22
    go_wp2_with fail
    refine H20.out.mono ?_
    rintro e u4 ⟨rfl, hbu4⟩
    have BU4 : Hid (Below w.heap.size w u4) := BU3.out.trans (hbu4.mono BU3.out.size)
    have H20b := Lib.hid (within_any (EU3.out.on hbu4) (CU3.out.on hbu4) (SU3.out.on hbu4))
    rw [W2.out] at H20b
    clear hbu4 H20
    go_wp2_with fail
    refine H20b.out.mono ?_
    rintro e u5 ⟨rfl, hbu5⟩
    have BU5 : Hid (Below w.heap.size w u5) := BU4.out.trans (hbu5.mono BU4.out.size)
    clear hbu5 H20b
    go_wp2_with fail
    go_ret
    exact ⟨rfl, BU5.out⟩
  replace hz := Decidable.not_not.1 hz
  subst hz
  obtain ⟨hoa, hcs, hor, hmr⟩ := hq.ok
  have hin : s ∈ R := (hmr s).2 (.inr rfl)
  have HDR : Hid (DropOut R s (dropC R s) 0) := .inr (.inr (.inr ⟨hor, hcs, hin, rfl, rfl⟩))
  have W1 : Hid (decide (s ∈ R) = true) := decide_eq_true hin
  have W2 : Hid (decide (WithinL a R) = true) := decide_eq_true ⟨hoa, hor, fun x hx => (hmr x).2 (.inl hx)⟩
  have W3 : Hid (decide (s ∈ dropC R s) = false) := decide_eq_false fun h => (mem_dropC.1 h).2 rfl
  have W4 : Hid (decide (WithinL (dropC R s) a) = true) := decide_eq_true ⟨own_drop s hor, hoa, fun x hx => by
    obtain ⟨h1, h2⟩ := mem_dropC.1 hx
    exact ((hmr x).1 h1).elim id fun h => absurd h h2⟩
  have H11 := Lib.hid (drop_any E2.out SR2.out hs2)
  clear hb2 hq hsl2 H9 hoa hcs hor hmr hin
  go_wp2_with fail
  refine H11.out.mono ?_
  rintro e w3 ⟨hb3, A3, c3, D, z3, hq3, rfl, hsl3⟩
  obtain ⟨hD, rfl⟩ := hq3.uniq HDR.out
  have B3 : Hid (Below w.heap.size w w3) := B2.out.trans (hb3.mono B2.out.size)
  have E3 := Lib.hid (E2.out.on hb3)
  have SA3 := Lib.hid (SA2.out.on hb3)
  have SB3 := Lib.hid (SB2.out.on hb3)
  have SR3 := Lib.hid (SR2.out.on hb3)
  have SD3 := Lib.hid hsl3
  rw [← hD] at W3 W4
  have H18 := Lib.hid (has_any (c := c2) (s := s) SR3.out.strs SR3.out.len)
  rw [W1.out] at H18
  clear hb3 hq3 hsl3 H11 hD
  go_wp2_with fail
  refine H18.out.mono ?_
  rintro e w' ⟨rfl, rfl⟩
  have H20 := Lib.hid (within_any E3.out SA3.out SR3.out)
  rw [W2.out] at H20
  clear H18
  go_wp2_with fail
  refine H20.out.mono ?_
  rintro e w4 ⟨rfl, hb4⟩
  have B4 : Hid (Below w.heap.size w w4) := B3.out.trans (hb4.mono B3.out.size)
  have E4 := Lib.hid (E3.out.on hb4)
  have SA4 := Lib.hid (SA3.out.on hb4)
  have SB4 := Lib.hid (SB3.out.on hb4)
  have SD4 := Lib.hid (SD3.out.on hb4)
  have H18b := Lib.hid (has_any (c := c3) (s := s) SD4.out.strs SD4.out.len)
  rw [W3.out] at H18b
  clear hb4 H20
  go_wp2_with fail
  refine H18b.out.mono ?_
  rintro e w' ⟨rfl, rfl⟩
  have H20b := Lib.hid (within_any E4.out SD4.out SA4.out)
  rw [W4.out] at H20b
  clear H18b
  go_wp2_with fail
  refine H20b.out.mono ?_
  rintro e w5 ⟨rfl, hb5⟩
  have B5 : Hid (Below w.heap.size w w5) := B4.out.trans (hb5.mono B4.out.size)
  have E5 := Lib.hid (E4.out.on hb5)
  have SA5 := Lib.hid (SA4.out.on hb5)
  have SB5 := Lib.hid (SB4.out.on hb5)
  clear hb5 H20b W1 W2 W3 W4 HDR
  have H13 := Lib.hid (union_any E5.out SA5.out SB5.out)
  go_wp2_with fail
  refine H13.out.mono ?_
  rintro e u1 ⟨hbu1, Au, cu, U, z, hqu, rfl, hslu⟩
  have BU1 : Hid (Below w.heap.size w u1) := B5.out.trans (hbu1.mono B5.out.size)
  have EU1 := Lib.hid (E5.out.on hbu1)
  have AU1 := Lib.hid (SA5.out.on hbu1)
  have CU1 := Lib.hid (SB5.out.on hbu1)
  have SU1 := Lib.hid hslu
  have HQU := Lib.hid hqu
  have H13b := Lib.hid (union_any EU1.out CU1.out AU1.out)
  clear hbu1 hqu hslu H13
  go_wp2_with fail
  refine H13b.out.mono ?_
  rintro e u2 ⟨hbu2, Av, cv, V, z2, hqv, rfl, hslv⟩
  obtain ⟨rfl, rfl⟩ := hqv.uniq HQU.out.comm
  have BU2 : Hid (Below w.heap.size w u2) := BU1.out.trans (hbu2.mono BU1.out.size)
  have EU2 := Lib.hid (EU1.out.on hbu2)
  have AU2 := Lib.hid (AU1.out.on hbu2)
  have CU2 := Lib.hid (CU1.out.on hbu2)
  have SU2 := Lib.hid (SU1.out.on hbu2)
  have SV2 := Lib.hid hslv
  have hzz : ((z2 : Int) == (z2 : Int)) = true := by simp
  have H22 := Lib.hid (refSameO_any (c := cu) (c' := cv) SU2.out.strs SV2.out.strs SU2.out.len)
  rw [decide_eq_true rfl] at H22
  clear hbu2 hqv hslv H13b
  by_cases hz : ¬ z2 = 0
  · have hz1 : ((z2 : Int) == (0 : Int)) = false := by simpa using hz
    have hz2 : ((z2 : Int) != (0 : Int)) = true := by simpa using hz
    clear hz
    go_wp2_with fail
    refine H22.out.mono ?_
    rintro e u3 ⟨rfl, hbu3⟩
    have BU3 : Hid (Below w.heap.size w u3) := BU2.out.trans (hbu3.mono BU2.out.size)
    clear hbu3 H22
    go_wp2_with fail
    go_ret
    exact ⟨rfl, BU3.out⟩
  replace hz := Decidable.not_not.1 hz
  subst hz
  obtain ⟨hoa, hob, hou, hmu⟩ := HQU.out.ok
  have W1 : Hid (decide (WithinL a V) = true) := decide_eq_true ⟨hoa, hou, fun x hx => (hmu x).2 (.inl hx)⟩
  have W2 : Hid (decide (WithinL b V) = true) := decide_eq_true ⟨hob, hou, fun x hx => (hmu x).2 (.inr hx)⟩
  clear hoa hob hou hmu hzz
  go_wp2_with fail
  refine H22.out.mono ?_
  rintro e u3 ⟨rfl, hbu3⟩
  have BU3 : Hid (Below w.heap.size w u3) := BU2.out.trans (hbu3.mono BU2.out.size)
  have H20 := Lib.hid (within_any (EU2.out.on hbu3) (AU2.out.on hbu3) (SU2.out.on hbu3))
  rw [W1.out] at H20
  have EU3 := Lib.hid (EU2.out.on hbu3)
  have CU3 := Lib.hid (CU2.out.on hbu3)
  have SU3 := Lib.hid (SU2.out.on hbu3)
  clear hbu3 H22
  go_wp2_with fail
  refine H20.out.mono ?_
  rintro e u4 ⟨rfl, hbu4⟩
  have BU4 : Hid (Below w.heap.size w u4) := BU3.out.trans (hbu4.mono BU3.out.size)
  have H20b := Lib.hid (within_any (EU3.out.on hbu4) (CU3.out.on hbu4) (SU3.out.on hbu4))
  rw [W2.out] at H20b
  clear hbu4 H20
  go_wp2_with fail
  refine H20b.out.mono ?_
  rintro e u5 ⟨rfl, hbu5⟩
  have BU5 : Hid (Below w.heap.size w u5) := BU4.out.trans (hbu5.mono BU4.out.size)
  clear hbu5 H20b
  go_wp2_with fail
  go_ret
  exact ⟨rfl, BU5.out⟩
end Go.Proofs.YtglidfmgechneaaGreatDoor
