/- first: what must be answered. -/
import Derived.Test.YtoegmajkfaokdaaDoorRq
import Derived.Test.YtoegmajkfaokdaaDoorGt
import Derived.Test.YtoegmajkfaokdaaDoorPc
import Derived.Test.YtoegmajkfaokdaaDoorPt
namespace Go.Proofs.YtoegmajkfaokdaaDoor
open Go.RowKit

theorem i1 : Lib.itoa 1 = [49] := (itoa_nat 1).trans (Lib.decDigits_one (by omega))
theorem i3 : Lib.itoa 3 = [51] := (itoa_nat 3).trans (Lib.decDigits_one (by omega))
theorem t13 : zText [1, 3] = [49, 46, 51] := by
  unfold zText
  rw [join_dot]
  simp [joinDot, i1, i3]
theorem p13 : IsPath [49, 46, 51] [1, 3] := ⟨by decide, t13.symm⟩
theorem ok13 : PathOk [1, 3] := by decide
theorem rd7 : rdAll [7] = ([], [7], false) := by
  unfold rdAll
  rw [numAt_none (Tp.no_long (n := 7) (r := []) (by rw [Tp.enc_small (by omega)]; rfl) (by omega))]
theorem ZRow.pl2 {w : World} {B n : Nat} {v : Value} {zs : List Int} (h : ZRow w B v zs) (hw : WideZ zs) (hn : zs.length = n) : ∃ A c, v = .slice A n c ∧ PL w A c zs := by
  subst hn
  exact h.pl hw

set_option maxRecDepth 100000 in
set_option maxHeartbeats 2000000 in
theorem first_any {w : World} (he : Env w) : Calls Tryd.prog 8 #[] w (Fine w) := by
  have H9 : Hid (Calls Tryd.prog 9 #[.string ⟨#[49, 46, 51]⟩] w (RetParse w [49, 46, 51])) := parse_any he (by decide)
  have HE := Lib.hid he
  clear he
  go_enter Tryd.func8, Tryd.ntmps8
  go_wp2_with fail
  refine H9.out.mono ?_
  rintro e w1 ⟨hb1, ⟨zs, v, hp, rfl, hr⟩ | ⟨hno, rfl⟩⟩
  case inr => exact absurd p13 (hno _)
  obtain rfl := hp.one p13
  obtain ⟨A, c, rfl, hpl⟩ := hr.pl2 (n := 2) ok13.wide rfl
  have B1 := Lib.hid hb1
  have P1 := Lib.hid hpl
  have H16 : Hid (Calls Tryd.prog 16 #[.slice A 2 c] w1 (RetPar w1 [1, 3])) := parent_any (l := [1, 3]) hpl (by decide)
  clear hb1 hpl hr hp H9
  go_wp2_with fail
  refine H16.out.mono ?_
  rintro e w2 ⟨hb2, ⟨hnil, rfl⟩ | ⟨ys, z, v2, hyz, rfl, hr2⟩⟩
  case inl => cases hnil
  obtain ⟨rfl, rfl⟩ : ys = [1] ∧ z = 3 := by
    have := List.append_inj' (s₁ := [1]) (t₁ := [3]) hyz rfl
    simp at this
    exact ⟨this.1.symm, this.2.symm⟩
  obtain ⟨A2, c2, rfl, hpl2⟩ := hr2.pl2 (n := 1) (ok13.wide.take 1) rfl
  have B2 : Hid (Below w.heap.size w w2) := B1.out.trans (hb2.mono B1.out.size)
  have P1b := Lib.hid (P1.out.on hb2)
  have P2 := Lib.hid hpl2
  have H17 : Hid (Calls Tryd.prog 17 #[.slice A2 1 c2, .int .i64 3] w2 (RetChild w2 [1, 3])) := child_any (l := [1]) (n := 3) hpl2 (by decide)
  clear hb2 hpl2 hr2 hyz H16 P1 B1
  go_wp2_with fail
  refine H17.out.mono ?_
  rintro e w3 ⟨hb3, ⟨_, v3, rfl, hr3⟩ | ⟨hno, rfl⟩⟩
  case inr => exact absurd ok13 hno
  obtain ⟨A3, c3, rfl, hpl3⟩ := hr3.pl2 (n := 2) ok13.wide rfl
  have B3 : Hid (Below w.heap.size w w3) := B2.out.trans (hb3.mono B2.out.size)
  have P1c := Lib.hid (P1b.out.on hb3)
  have P2c := Lib.hid (P2.out.on hb3)
  have P3 := Lib.hid hpl3
  obtain ⟨W3, hW3⟩ : ∃ W3, W3 = w3.alloc (.cells #[.int .u8 7] 5) := ⟨_, rfl⟩
  have hbW : Below w3.heap.size w3 W3 := by rw [hW3]; exact (Below.refl _ _).alloc (Nat.le_refl _) _
  have hbt : Tp.Bts W3 W3.heap.size (some ⟨w3.heap.size, 0, none⟩) [7] := by
    rw [hW3]
    exact Tp.one_laid w3 7
  have H27 : Hid (Calls Tryd.prog 27 #[.slice (some ⟨w3.heap.size, 0, none⟩) 1 1] W3 (Tp.RetTape W3 [7])) := Tp.tape_new (l := [7]) (c := 1) hbt (fun h => by cases h) (by decide)
  have HW3 := Lib.hid hW3
  have BW : Hid (Below w.heap.size w W3) := B3.out.trans (hbW.mono B3.out.size)
  have P1d := Lib.hid (P1c.out.on hbW)
  have P2d := Lib.hid (P2c.out.on hbW)
  have P3d := Lib.hid (P3.out.on hbW)
  clear hb3 hpl3 hr3 H17 P1b P2 B2 hW3 hbW hbt P1c P2c P3
  go_wp2_with fail
  rw [← HW3.out]
  refine H27.out.mono ?_
  rintro e w4 ⟨g, k, rfl, htp, hg, hk, hb4⟩
  have H28 := Lib.hid (get_any htp (by intro d hd; simp at hd; omega) (by decide))
  have B4 : Hid (Below w.heap.size w w4) := BW.out.trans (hb4.mono BW.out.size)
  have P1e := Lib.hid (P1d.out.on hb4)
  have P2e := Lib.hid (P2d.out.on hb4)
  have P3e := Lib.hid (P3d.out.on hb4)
  have HG : Hid (W3.heap.size ≤ g ∧ W3.heap.size ≤ w4.heap.size) := ⟨hg, hb4.size⟩
  have P1x := Lib.hid P1d.out
  have P2x := Lib.hid P2d.out
  have P3x := Lib.hid P3d.out
  have HB4 := Lib.hid hb4
  clear htp hg hk hb4 H27 HW3
  go_wp2_with fail
  refine H28.out.mono ?_
  rintro e w5 ⟨hk5, _, ⟨ht, _⟩ | ⟨_, rfl⟩⟩
  case inl => rw [rd7] at ht; cases ht
  have hb5 : Below W3.heap.size W3 w5 := HB4.out.trans (hk5.below HG.out.2 (fun j hj => by rw [hj]; exact HG.out.1))
  have B5 : Hid (Below w.heap.size w w5) := BW.out.trans (hb5.mono BW.out.size)
  have p1 := P1x.out.on hb5
  have p2 := P2x.out.on hb5
  have p3 := P3x.out.on hb5
  have H13 : Hid (Calls Tryd.prog 13 #[.slice A3 2 c3] w5 (RetB w5 (.string (str [49, 46, 51])))) := by
    have := text_any (c := c3) (HE.out.on B5.out) p3.zs p3.wide (by decide)
    rwa [t13] at this
  have K13 : Hid (∀ W, Below w5.heap.size w5 W → PL W A c [1, 3] ∧ PL W A2 c2 [1]) := fun W h => ⟨p1.on h, p2.on h⟩
  clear hb5 hk5 H28 p1 p2 p3 P1x P2x P3x P1d P2d P3d P1e P2e P3e HG HB4 B4 BW B3
  go_wp2_with fail
  refine H13.out.mono ?_
  rintro e w6 ⟨rfl, hb6⟩
  obtain ⟨p1, p2⟩ := K13.out w6 hb6
  have HB6 := Lib.hid hb6
  have H23 : Hid (Calls Tryd.prog 23 #[.slice A 2 c, .slice A2 1 c2] w6 (RetB w6 (.bool true))) := by
    have := below_any (c := c) (c' := c2) p1 p2 (by decide)
    rwa [show decide (BelowP [1, 3] [1]) = true from rfl] at this
  have hq : ((str [49, 46, 51]).toList == ([49, 46, 51] : List UInt8)) = true := by rw [ByteArray.toList_eq, str_list]; rfl
  clear hb6 p1 p2 H13
  go_wp2_with fail
  refine H23.out.mono ?_
  rintro e w7 ⟨rfl, hb7⟩
  have B7 : Hid (Below w5.heap.size w5 w7) := HB6.out.trans (hb7.mono HB6.out.size)
  obtain ⟨p1, p2⟩ := K13.out w7 B7.out
  have H23b : Hid (Calls Tryd.prog 23 #[.slice A2 1 c2, .slice A 2 c] w7 (RetB w7 (.bool false))) := by
    have := below_any (c := c2) (c' := c) p2 p1 (by decide)
    rwa [show decide (BelowP [1] [1, 3]) = false from rfl] at this
  clear hb7 p1 p2 H23 HB6
  go_wp2_with fail
  refine H23b.out.mono ?_
  rintro e w8 ⟨rfl, hb8⟩
  have B8 : Hid (Below w5.heap.size w5 w8) := B7.out.trans (hb8.mono B7.out.size)
  obtain ⟨p1, p2⟩ := K13.out w8 B8.out
  have H25 : Hid (Calls Tryd.prog 25 #[.slice A2 1 c2, .slice A 2 c] w8 fun e w' => e = .returned (.int .i64 (-1)) ∧ w8 = w') := by
    have := compare_any (c1 := c2) (c2 := c) p2.zs p1.zs (by decide) (by decide)
    rwa [show cmpZ [1] [1, 3] = -1 from rfl] at this
  have H11 : Hid (Calls Tryd.prog 11 #[.slice none 0 0] w8 fun e w' => e = .returned (.bool true) ∧ w8 = w') := by
    have := right_any (c := 0) (pl_nil w8).zs
    rwa [show decide (PathOk []) = true from rfl] at this
  clear hb8 p1 p2 H23b
  go_wp2_with (first
    | (go_at_call 25; refine H25.out.mono ?_; rintro e w' ⟨rfl, rfl⟩)
    | (go_at_call 11; refine H11.out.mono ?_; rintro e w' ⟨rfl, rfl⟩))
  go_ret
  exact ⟨rfl, B5.out.trans (B8.out.mono B5.out.size)⟩
end Go.Proofs.YtoegmajkfaokdaaDoor
