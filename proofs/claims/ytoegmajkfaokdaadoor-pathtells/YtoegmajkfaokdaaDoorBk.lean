/- PathBack walked. -/
import Derived.Test.YtoegmajkfaokdaaDoorFi
namespace Go.Proofs.YtoegmajkfaokdaaDoor
open Go.RowKit

/-- A pen, just made. -/
theorem pen_made (w : World) : PenB (w.alloc (.cells #[.slice none 0 0] 35)) w.heap.size w.heap.size [] :=
  ⟨none, ⟨.slice none 0 0, by simp, by simp, rfl, World.ownsRow_nil _ _ _ _, by simp⟩, Nat.le_refl _, fun j h => by cases h⟩
theorem cmp_bounds (p q : List Int) : -1 ≤ cmpZ p q ∧ cmpZ p q ≤ 1 := by
  rcases tot_cmpZ.one p q with h | h | h <;> rw [h] <;> exact ⟨by omega, by omega⟩

set_option maxRecDepth 100000 in
set_option maxHeartbeats 4000000 in
/-- The law's last expression. -/
theorem back_end {w9 : World} {A B : Option Addr} {c d : Nat} {p q : List Int} (hp : PL w9 A c p) (hq : PL w9 B d q) (hnp : p.length ≤ 6) (hnq : q.length ≤ 6) :
    ∃ z y : Int, ∃ s b : Bool, -1 ≤ y ∧ y ≤ 1 ∧ z = -y ∧ ((z == 0) == s) = true ∧ (b = true → y = -1) ∧
      (∀ W, Below w9.heap.size w9 W → Calls Tryd.prog 25 #[.slice A p.length c, .slice B q.length d] W fun e w' => e = .returned (.int .i64 z) ∧ W = w') ∧
      (∀ W, Below w9.heap.size w9 W → Calls Tryd.prog 25 #[.slice B q.length d, .slice A p.length c] W fun e w' => e = .returned (.int .i64 y) ∧ W = w') ∧
      (∀ W, Below w9.heap.size w9 W → Calls Tryd.prog 15 #[.slice A p.length c, .slice B q.length d] W fun e w' => e = .returned (.bool s) ∧ Below w9.heap.size w9 w') ∧
      (∀ W, Below w9.heap.size w9 W → Calls Tryd.prog 23 #[.slice A p.length c, .slice B q.length d] W fun e w' => e = .returned (.bool b) ∧ Below w9.heap.size w9 w') := by
  refine ⟨cmpZ p q, cmpZ q p, decide (p = q), decide (BelowP p q), (cmp_bounds q p).1, (cmp_bounds q p).2, tot_cmpZ.neg q p, ?_, ?_, ?_, ?_, ?_, ?_⟩
  · by_cases e : p = q
    · have h := (tot_cmpZ.eq p q).2 e
      rw [h, decide_eq_true e]; rfl
    · have h : ¬ cmpZ p q = 0 := fun h => e ((tot_cmpZ.eq p q).1 h)
      rw [decide_eq_false e]
      simpa using h
  · intro h
    exact belowP_cmp (of_decide_eq_true h)
  · intro W hb
    exact compare_any (hp.on hb).zs (hq.on hb).zs (by omega) (by omega)
  · intro W hb
    exact compare_any (hq.on hb).zs (hp.on hb).zs (by omega) (by omega)
  · intro W hb
    exact (same_any (hp.on hb).zs (hq.on hb).zs (by omega)).mono fun e w' h => ⟨h.1, hb.trans (h.2.mono hb.size)⟩
  · intro W hb
    exact (below_any (hp.on hb) (hq.on hb) (by omega)).mono fun e w' h => ⟨h.1, hb.trans (h.2.mono hb.size)⟩

set_option maxRecDepth 100000 in
set_option maxHeartbeats 8000000 in
theorem pathBack_any {w : World} {A B : Option Addr} {c d : Nat} {p q : List Int} {n : Int} (he : Env w) (hp : PL w A c p) (hq : PL w B d q) : Calls Tryd.prog 6 #[.slice A p.length c, .slice B q.length d, .int .i64 n] w (Fine w) := by
  have H8 := Lib.hid (first_any he)
  have HE := Lib.hid he
  have HP := Lib.hid hp
  have HQ := Lib.hid hq
  clear he hp hq
  go_enter Tryd.func6, Tryd.ntmps6
  go_wp2_with fail
  refine H8.out.mono ?_
  rintro e w1 ⟨rfl, hb1⟩
  have B1 := Lib.hid hb1
  have P1 := Lib.hid (HP.out.on hb1)
  have Q1 := Lib.hid (HQ.out.on hb1)
  have H11 := Lib.hid (right_any (c := c) P1.out.zs)
  have H11q := Lib.hid (right_any (c := d) Q1.out.zs)
  clear hb1 H8
  by_cases hok : PathOk p
  case neg =>
    rw [decide_eq_false hok] at H11
    clear hok H11q
    go_wp2_with (first | (go_at_call 11; refine H11.out.mono ?_; rintro e w' ⟨rfl, rfl⟩))
    go_ret
    exact ⟨rfl, B1.out⟩
  rw [decide_eq_true hok] at H11
  by_cases hoq : PathOk q
  case neg =>
    rw [decide_eq_false hoq] at H11q
    clear hok hoq
    go_wp2_with fail
    refine H11.out.mono ?_
    rintro e w' ⟨rfl, rfl⟩
    go_wp2_with fail
    refine H11q.out.mono ?_
    rintro e w' ⟨rfl, rfl⟩
    go_wp2_with fail
    go_ret
    exact ⟨rfl, B1.out⟩
  rw [decide_eq_true hoq] at H11q
  have hp6 := hok.1
  have hq6 := hoq.1
  have HOK := Lib.hid hok
  have H13 := Lib.hid (text_any (c := c) (HE.out.on B1.out) P1.out.zs P1.out.wide (by omega))
  have HTL := Lib.hid (zText_len P1.out.wide)
  obtain ⟨t, ht⟩ : ∃ t, t = zText p := ⟨_, rfl⟩
  have HT := Lib.hid ht
  rw [← ht] at H13 HTL
  clear hok hoq ht
  go_wp2_with fail
  refine H11.out.mono ?_
  rintro e w' ⟨rfl, rfl⟩
  go_wp2_with fail
  refine H11q.out.mono ?_
  rintro e w' ⟨rfl, rfl⟩
  go_wp2_with fail
  refine H13.out.mono ?_
  rintro e w2 ⟨rfl, hb2⟩
  have B2 : Hid (Below w.heap.size w w2) := B1.out.trans (hb2.mono B1.out.size)
  have H9 := Lib.hid (parse_any (t := t) (HE.out.on B2.out) (by have := HTL.out; omega))
  clear hb2 H13 H11 H11q P1 Q1 B1
  go_wp2_with fail
  refine H9.out.mono ?_
  rintro e w3 ⟨hb3, ⟨zs, v3, hip, rfl, hr3⟩ | ⟨hno, rfl⟩⟩
  case inr => exact absurd ⟨HOK.out, HT.out⟩ (hno p)
  obtain rfl := hip.one ⟨HOK.out, HT.out⟩
  obtain ⟨A3, c3, rfl, hpl3⟩ := hr3.pl HOK.out.wide
  have B3 : Hid (Below w.heap.size w w3) := B2.out.trans (hb3.mono B2.out.size)
  have P3 := Lib.hid (HP.out.on B3.out)
  have X3 := Lib.hid hpl3
  clear hb3 hip hr3 hpl3 H9 B2 HT HTL
  obtain ⟨N, hN⟩ : ∃ N, N = w3.heap.size := ⟨_, rfl⟩
  obtain ⟨W4, hW4⟩ : ∃ W4, W4 = w3.alloc (.cells #[.slice none 0 0] 35) := ⟨_, rfl⟩
  have hb4 : Below N w3 W4 := by rw [hW4, hN]; exact (Below.refl _ _).alloc (Nat.le_refl _) _
  have hs4 : N ≤ W4.heap.size := by rw [hN]; exact hb4.size
  have hp4 : PenB W4 N N [] := by rw [hW4, hN]; exact pen_made w3
  have hA4 : Zs w3 N A zs := by rw [hN]; exact P3.out.zs
  have H18 := Lib.hid (put_any (c := c) hp4 hs4 (hA4.below hb4) (by omega))
  have HZL := Lib.hid (zBytes_len (zs := zs) (by omega))
  have hzl : (zBytes zs).length ≤ 900000 := by have := HZL.out; omega
  have HW4 := Lib.hid hW4
  have HN := Lib.hid hN
  have B4 := Lib.hid hb4
  clear hW4 hN hb4 hs4 hp4 hA4 HZL
  go_wp2_with fail
  rw [← HW4.out, ← HN.out]
  refine H18.out.mono ?_
  rintro e w5 ⟨rfl, hp5, hb5⟩
  have B5 := Lib.hid (B4.out.trans hb5)
  obtain ⟨k5, hp5, _, _⟩ := hp5
  have H19 := Lib.hid (Tp.pen_bytes hp5 hzl)
  clear hp5 hb5 H18
  go_wp2_with fail
  refine H19.out.mono ?_
  rintro e w6 ⟨A6, c6, rfl, h6, _, h6n, _, _, hb6⟩
  have B6 : Hid (Below N w3 w6) := B5.out.trans (hb6.mono (by have := B5.out.size; have := HN.out; omega))
  have H27 := Lib.hid (Tp.tape_new (c := c6) h6 h6n hzl)
  clear h6 h6n hb6 H19
  go_wp2_with fail
  refine H27.out.mono ?_
  rintro e w7 ⟨g7, k7, rfl, ht7, hg7, _, hb7⟩
  have hN6 : N ≤ w6.heap.size := by have := B6.out.size; have := HN.out; omega
  have B7 : Hid (Below N w3 w7) := B6.out.trans (hb7.mono hN6)
  have H28 := Lib.hid (get_any ht7 (zBytes_sml zs) hzl)
  have hN7 : N ≤ w7.heap.size := by have := hb7.size; omega
  have hg7N : N ≤ g7 := by omega
  clear ht7 hg7 hb7 H27
  go_wp2_with fail
  refine H28.out.mono ?_
  rintro e w8 ⟨hk8, _, ⟨hr, v8, rfl, hrow8⟩ | ⟨hr, _⟩⟩
  case inr => rw [rdAll_put HOK.out] at hr; cases hr
  rw [rdAll_put HOK.out] at hrow8
  obtain ⟨A8, c8, rfl, hpl8⟩ := ZRow.pl (zs := zs) hrow8 HOK.out.wide
  have B8 : Hid (Below w3.heap.size w3 w8) := by
    have := B7.out.trans (hk8.below hN7 (fun j hj => by rw [hj]; exact hg7N))
    rw [HN.out] at this
    exact this
  have B8w : Hid (Below w.heap.size w w8) := B3.out.trans (B8.out.mono B3.out.size)
  have P8 := Lib.hid (HP.out.on B8w.out)
  have Q8 := Lib.hid (HQ.out.on B8w.out)
  have X8 := Lib.hid (X3.out.on B8.out)
  have Y8 := Lib.hid hpl8
  have S1 := same_any (c := c3) (c' := c) X8.out.zs P8.out.zs (by omega)
  rw [decide_eq_true rfl] at S1
  have S1 := Lib.hid S1
  have S2 : Hid (∀ W, Below w8.heap.size w8 W → Calls Tryd.prog 15 #[.slice A8 zs.length c8, .slice A zs.length c] W (RetB W (.bool true))) := fun W hb => by
    have := same_any (c := c8) (c' := c) (Y8.out.on hb).zs (P8.out.on hb).zs (by omega)
    rwa [decide_eq_true rfl] at this
  clear hk8 hr hrow8 hpl8 H28 B7 B6 B5 B4 hN6 hN7 hg7N HW4 HN P3 X3 B3 B8
  go_wp2_with fail
  refine S1.out.mono ?_
  rintro e w9 ⟨rfl, hb9⟩
  have S2' := Lib.hid (S2.out w9 hb9)
  have HB9 := Lib.hid hb9
  clear hb9 S1 S2
  go_wp2_with fail
  refine S2'.out.mono ?_
  rintro e w10 ⟨rfl, hb10⟩
  have B10 : Hid (Below w8.heap.size w8 w10) := HB9.out.trans (hb10.mono HB9.out.size)
  have B10w : Hid (Below w.heap.size w w10) := B8w.out.trans (B10.out.mono B8w.out.size)
  have P10 := Lib.hid (HP.out.on B10w.out)
  have H17 := Lib.hid (child_any (n := n) P10.out (by omega))
  clear hb10 S2' HB9 P8 Q8 X8 Y8 B8w B10
  go_wp2_with fail
  refine H17.out.mono ?_
  rintro e w11 ⟨hb11, hch⟩
  have B11 : Hid (Below w.heap.size w w11) := B10w.out.trans (hb11.mono B10w.out.size)
  rcases hch with ⟨hokc, v11, rfl, hr11⟩ | ⟨hno, rfl⟩
  · obtain ⟨C, cc, rfl, hplc⟩ := hr11.pl hokc.wide
    have hcl : (zs ++ [n]).length ≤ 7 := by simp; omega
    have H16 := Lib.hid (parent_any hplc (by omega))
    have PC := Lib.hid hplc
    obtain ⟨L, hL⟩ : ∃ L, L = (zs ++ [n]).length := ⟨_, rfl⟩
    have HL := Lib.hid hL
    rw [← hL] at H16 hcl ⊢
    clear hb11 hokc hr11 hplc H17 P10 B10w hL
    go_wp2_with fail
    refine H16.out.mono ?_
    rintro e w12 ⟨hb12, ⟨hnil, rfl⟩ | ⟨ys, z, v12, hyz, rfl, hr12⟩⟩
    case inl => simp at hnil
    obtain ⟨hys, hzn⟩ := List.append_inj' hyz rfl
    simp at hzn
    subst hys hzn
    obtain ⟨U, cu, rfl, hplu⟩ := hr12.pl HOK.out.wide
    have B12 : Hid (Below w.heap.size w w12) := B11.out.trans (hb12.mono B11.out.size)
    have P12 := Lib.hid (HP.out.on B12.out)
    have PC12 := Lib.hid (PC.out.on hb12)
    have S15 := same_any (c := cu) (c' := c) hplu.zs P12.out.zs (by omega)
    rw [decide_eq_true rfl] at S15
    have S15 := Lib.hid S15
    have S23 : Hid (∀ W, Below w12.heap.size w12 W → Calls Tryd.prog 23 #[.slice C L cc, .slice A zs.length c] W (RetB W (.bool true))) := fun W hb => by
      have := below_any (PC12.out.on hb) (P12.out.on hb) (by rw [← HL.out]; omega)
      rwa [decide_eq_true (belowP_snoc zs n), ← HL.out] at this
    have S25 : Hid (∀ W, Below w12.heap.size w12 W → Calls Tryd.prog 25 #[.slice A zs.length c, .slice C L cc] W fun e w' => e = .returned (.int .i64 (-1)) ∧ W = w') := fun W hb => by
      have := compare_any (c1 := c) (c2 := cc) (P12.out.on hb).zs (PC12.out.on hb).zs (by omega) (by rw [← HL.out]; omega)
      rwa [belowP_cmp (belowP_snoc zs n), ← HL.out] at this
    clear hb12 hyz hr12 hplu H16 PC B11
    go_wp2_with fail
    refine S15.out.mono ?_
    rintro e w13 ⟨rfl, hb13⟩
    have S23' := Lib.hid (S23.out w13 hb13)
    have HB13 := Lib.hid hb13
    clear hb13 S15 S23
    go_wp2_with fail
    refine S23'.out.mono ?_
    rintro e w14 ⟨rfl, hb14⟩
    have B14 : Below w12.heap.size w12 w14 := HB13.out.trans (hb14.mono HB13.out.size)
    have S25' := Lib.hid (S25.out w14 B14)
    have B14w : Hid (Below w.heap.size w w14) := B12.out.trans (B14.mono B12.out.size)
    have P14 := Lib.hid (HP.out.on B14w.out)
    have Q14 := Lib.hid (HQ.out.on B14w.out)
    obtain ⟨x, y, s, b, hy0, hy1, hxy, hs, hb, E1, E2, E3, E4⟩ := back_end P14.out Q14.out hp6 hq6
    have HE1 := Lib.hid (E1 w14 (Below.refl _ _))
    have HE2 := Lib.hid (E2 w14 (Below.refl _ _))
    have HE3 := Lib.hid (E3 w14 (Below.refl _ _))
    have HE4 := Lib.hid E4
    have HE5 := Lib.hid E2
    have HBY := Lib.hid hb
    have hxy2 : (x == -y) = true := by rw [hxy]; simp
    clear P14 Q14 E1 E2 E3 E4 hb hxy
    clear hb14 B14 S23' S25 HB13 P12 PC12
    go_wp2_with fail
    refine S25'.out.mono ?_
    rintro e w' ⟨rfl, rfl⟩
    go_wp2_with fail
    refine HE1.out.mono ?_
    rintro e w' ⟨rfl, rfl⟩
    go_wp2_with fail
    refine HE2.out.mono ?_
    rintro e w' ⟨rfl, rfl⟩
    go_wp2_with fail
    refine HE1.out.mono ?_
    rintro e w' ⟨rfl, rfl⟩
    go_wp2_with fail
    refine HE3.out.mono ?_
    rintro e w15 ⟨rfl, hb15⟩
    have H23 := Lib.hid (HE4.out w15 hb15)
    clear hb15
    go_wp2_with fail
    refine H23.out.mono ?_
    rintro e w16 ⟨rfl, hb16⟩
    have B16 : Hid (Below w.heap.size w w16) := B14w.out.trans (hb16.mono B14w.out.size)
    have H25 := Lib.hid (HE5.out w16 hb16)
    clear hb16 H23 HE1 HE2 HE3 HE4 HE5
    cases b with
    | false =>
      go_wp2_with fail
      go_ret
      exact ⟨by simp, B16.out⟩
    | true =>
      have hym := HBY.out rfl
      have hy9 : (y == -1) = true := by rw [hym]; rfl
      clear hym
      go_wp2_with fail
      refine H25.out.mono ?_
      rintro e w' ⟨rfl, rfl⟩
      go_wp2_with fail
      go_ret
      exact ⟨by simp, B16.out⟩
  · have P11 := Lib.hid (HP.out.on B11.out)
    have Q11 := Lib.hid (HQ.out.on B11.out)
    obtain ⟨x, y, s, b, hy0, hy1, hxy, hs, hb, E1, E2, E3, E4⟩ := back_end P11.out Q11.out hp6 hq6
    have HE1 := Lib.hid (E1 w11 (Below.refl _ _))
    have HE2 := Lib.hid (E2 w11 (Below.refl _ _))
    have HE3 := Lib.hid (E3 w11 (Below.refl _ _))
    have HE4 := Lib.hid E4
    have HE5 := Lib.hid E2
    have HBY := Lib.hid hb
    have hxy2 : (x == -y) = true := by rw [hxy]; simp
    clear P11 Q11 E1 E2 E3 E4 hb hxy
    clear hb11 hno H17 P10 B10w
    go_wp2_with fail
    refine HE1.out.mono ?_
    rintro e w' ⟨rfl, rfl⟩
    go_wp2_with fail
    refine HE2.out.mono ?_
    rintro e w' ⟨rfl, rfl⟩
    go_wp2_with fail
    refine HE1.out.mono ?_
    rintro e w' ⟨rfl, rfl⟩
    go_wp2_with fail
    refine HE3.out.mono ?_
    rintro e w15 ⟨rfl, hb15⟩
    have H23 := Lib.hid (HE4.out w15 hb15)
    clear hb15
    go_wp2_with fail
    refine H23.out.mono ?_
    rintro e w16 ⟨rfl, hb16⟩
    have B16 : Hid (Below w.heap.size w w16) := B11.out.trans (hb16.mono B11.out.size)
    have H25 := Lib.hid (HE5.out w16 hb16)
    clear hb16 H23 HE1 HE2 HE3 HE4 HE5
    cases b with
    | false =>
      go_wp2_with fail
      go_ret
      exact ⟨by simp, B16.out⟩
    | true =>
      have hym := HBY.out rfl
      have hy9 : (y == -1) = true := by rw [hym]; rfl
      clear hym
      go_wp2_with fail
      refine H25.out.mono ?_
      rintro e w' ⟨rfl, rfl⟩
      go_wp2_with fail
      go_ret
      exact ⟨by simp, B16.out⟩
end Go.Proofs.YtoegmajkfaokdaaDoor
