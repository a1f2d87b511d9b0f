/- The law's helper 'first' answers true. -/
import Derived.Test.YtpokdihnimlgkaaGreatDoorCj
import Derived.Test.YtpokdihnimlgkaaGreatDoorCm
import Derived.Test.YtpokdihnimlgkaaGreatDoorWi
import Derived.Test.YtpokdihnimlgkaaGreatDoorTx
namespace Go.Proofs.YtpokdihnimlgkaaGreatDoor
open Go.RowKit

theorem d0 : Lib.decDigits 0 = [48] := Lib.decDigits_one (by omega)
theorem d1 : Lib.decDigits 1 = [49] := Lib.decDigits_one (by omega)
theorem d2 : Lib.decDigits 2 = [50] := Lib.decDigits_one (by omega)
theorem t_1 : catText [1] 0 = [49, 47, 48] := by simp [catText, pathText, joinDot, d1, d0]
theorem t_2 : catText [2] 0 = [50, 47, 48] := by simp [catText, pathText, joinDot, d2, d0]
theorem c_1 : catOf [49, 47, 48] = some ([1], 0) := catOf_iff.2 ⟨by decide, t_1.symm⟩
theorem c_2 : catOf [50, 47, 48] = some ([2], 0) := catOf_iff.2 ⟨by decide, t_2.symm⟩
theorem cmp_12 : cmpC [49, 47, 48] [50, 47, 48] = -1 := by
  unfold cmpC
  rw [c_1, c_2]
  decide
def fa : List Ent := [([49, 47, 48], 3)]
def fb : List Ent := [([49, 47, 48], 2), ([50, 47, 48], 0)]
def fw : List Ent := [([49, 47, 48], 3), ([50, 47, 48], 2)]
theorem ok_1 {n : Int} (h : 0 ≤ n ∧ n ≤ 3) : entErr ([49, 47, 48], n) = 0 := entErr_zero.2 ⟨by rw [c_1]; rfl, h⟩
theorem ok_2 {n : Int} (h : 0 ≤ n ∧ n ≤ 3) : entErr ([50, 47, 48], n) = 0 := entErr_zero.2 ⟨by rw [c_2]; rfl, h⟩
theorem rises_12 : Rises cmpC [[49, 47, 48], [50, 47, 48]] := List.pairwise_cons.2 ⟨fun y hy => by rw [List.mem_singleton.1 hy]; exact cmp_12, List.pairwise_singleton _ _⟩
theorem right_fa : RightL fa := ⟨by decide, fun e he => by
  simp only [fa, List.mem_singleton] at he
  subst he
  exact ⟨ok_1 (by decide), by decide⟩, List.pairwise_singleton _ _⟩
theorem right_fb : RightL fb := ⟨by decide, fun e he => by
  simp only [fb, List.mem_cons, List.not_mem_nil, or_false] at he
  rcases he with rfl | rfl
  · exact ⟨ok_1 (by decide), by decide⟩
  · exact ⟨ok_2 (by decide), by decide⟩, rises_12⟩
theorem lev_fa (c : List UInt8) : lev fa c = if [49, 47, 48] = c then 3 else 1 := rfl
theorem lev_fb (c : List UInt8) : lev fb c = if [49, 47, 48] = c then 2 else if [50, 47, 48] = c then 0 else 1 := rfl
theorem ne_12 : ¬ ([50, 47, 48] : List UInt8) = [49, 47, 48] := by decide
theorem join_first : MixOut pickHi fa fb fa 0 := by
  refine .inr ⟨right_fa, right_fb, .inr ⟨picked_ok (fun x y hx hy => ?_) right_fa right_fb, fa, ?_, .inr ⟨by decide, rfl, rfl⟩⟩⟩
  · unfold pickHi
    omega
  · rw [picked_last rfl]
    refine ⟨right_fa.2.2, fun c => ?_, fun e he => ?_⟩
    · simp only [lev_fa, lev_fb, keys]
      simp only [fa, List.map_cons, List.map_nil, List.mem_singleton]
      by_cases h1 : [49, 47, 48] = c
      · subst h1; simp [pickHi]; omega
      · by_cases h2 : [50, 47, 48] = c
        · subst h2; simp [pickHi]; omega
        · simp [h1, h2, pickHi, Ne.symm h1]
    · simp only [fa, List.mem_singleton] at he
      subst he
      decide
theorem meet_first : MixOut pickLo fa fb fb 0 := by
  refine .inr ⟨right_fa, right_fb, .inr ⟨picked_ok (fun x y hx hy => ?_) right_fa right_fb, fb, ?_, .inr ⟨by decide, rfl, rfl⟩⟩⟩
  · unfold pickLo
    omega
  · rw [picked_last rfl]
    refine ⟨right_fb.2.2, fun c => ?_, fun e he => ?_⟩
    · simp only [lev_fa, lev_fb, keys]
      simp only [fb, List.map_cons, List.map_nil, List.mem_cons, List.not_mem_nil, or_false]
      by_cases h1 : [49, 47, 48] = c
      · subst h1; simp [pickLo]; omega
      · by_cases h2 : [50, 47, 48] = c
        · subst h2; simp [pickLo]; omega
        · simp [h1, h2, pickLo, Ne.symm h1, Ne.symm h2]
    · simp only [fb, List.mem_cons, List.not_mem_nil, or_false] at he
      rcases he with rfl | rfl <;> decide
theorem with_first : WithOut fa [50, 47, 48] 2 fw 0 := by
  refine .inr ⟨right_fa, .inr ⟨firstErr_zero.2 fun e he => ?_, fw, ⟨rises_12, fun c => ?_, fun e he => ?_⟩, .inr ⟨by decide, rfl, rfl⟩⟩⟩
  · simp only [fa, List.cons_append, List.nil_append, List.mem_cons, List.not_mem_nil, or_false] at he
    rcases he with rfl | rfl
    · exact ok_1 (by decide)
    · exact ok_2 (by decide)
  · rw [last_snoc, right_fa.lastLev, lev_fa]
    simp only [keys, fw, List.map_cons, List.map_nil, List.mem_cons, List.not_mem_nil, or_false]
    by_cases h1 : [49, 47, 48] = c
    · subst h1; simp
    · by_cases h2 : [50, 47, 48] = c
      · subst h2; simp
      · simp [h1, h2, Ne.symm h1, Ne.symm h2]
  · simp only [fw, List.mem_cons, List.not_mem_nil, or_false] at he
    rcases he with rfl | rfl <;> decide
theorem flows_ba : decide (FlowsL fb fa) = true := decide_eq_true ⟨right_fb, right_fa, fun e he => by
  simp only [fa, fb, List.cons_append, List.nil_append, List.mem_cons, List.not_mem_nil, or_false] at he
  rcases he with rfl | rfl | rfl <;> decide⟩
theorem flows_ab : decide (FlowsL fa fb) = false := decide_eq_false fun h => absurd (h.2.2 ([49, 47, 48], 3) (by simp [fa])) (by decide)
theorem text_fb : labText fb = [49, 47, 48, 61, 50, 44, 50, 47, 48, 61, 48] := by
  simp [labText, fb, entText, Lib.join, List.intercalate, Lib.itoa, d0, d2]
theorem lev_3 : lev fb [51, 47, 48] = 1 := by decide

/-- Entries, just laid. -/
theorem ents_new (w : World) (l : List Ent) : Ents (w.alloc (.cells (entCells l).toArray 33)) (w.heap.size + 1) (some ⟨w.heap.size, 0, none⟩) l := fun _ => by
  refine ⟨w.heap.size, 0, rfl, by omega, fun k s n hk => ?_⟩
  obtain ⟨e1, e2⟩ := entCells_at hk
  rw [cell_of_row _ _ _ _ _ _ (heap_alloc_new w _), cell_of_row _ _ _ _ _ _ (heap_alloc_new w _), Nat.zero_add]
  simp only [List.getElem?_toArray]
  exact ⟨e1, e2⟩
theorem short_fa : ∀ e ∈ fa, e.1.length ≤ 140737488351232 := fun e he => cat_len (entErr_zero.1 (right_fa.2.1 e he).1).1
theorem short_fb : ∀ e ∈ fb, e.1.length ≤ 140737488351232 := fun e he => cat_len (entErr_zero.1 (right_fb.2.1 e he).1).1

set_option maxRecDepth 100000 in
set_option maxHeartbeats 2000000 in
theorem first_any {w : World} (he : Env w) : Calls Tryz.prog 7 #[] w (Fine w) := by
  obtain ⟨W0, hW0⟩ : ∃ W0, W0 = w.alloc (.cells (entCells fa).toArray 33) := ⟨_, rfl⟩
  obtain ⟨W1, hW1⟩ : ∃ W1, W1 = W0.alloc (.cells (entCells fb).toArray 33) := ⟨_, rfl⟩
  have hb0 : Below w.heap.size w W0 := by rw [hW0]; exact (Below.refl _ _).alloc (Nat.le_refl _) _
  have hb1 : Below W0.heap.size W0 W1 := by rw [hW1]; exact (Below.refl _ _).alloc (Nat.le_refl _) _
  have hs0 : W0.heap.size = w.heap.size + 1 := by rw [hW0]; simp
  have hs1 : W1.heap.size = W0.heap.size + 1 := by rw [hW1]; simp
  have la0 : Lab W0 (some ⟨w.heap.size, 0, none⟩) 1 fa := ⟨by rw [hs0, hW0]; exact ents_new w fa, fun h => (by cases h), short_fa, by unfold maxLen; decide⟩
  have la1 : Lab W1 (some ⟨w.heap.size, 0, none⟩) 1 fa := la0.on hb1
  have lb1 : Lab W1 (some ⟨W0.heap.size, 0, none⟩) 2 fb := ⟨by rw [hs1, hW1]; exact ents_new W0 fb, fun h => (by cases h), short_fb, by unfold maxLen; decide⟩
  have E1 := Lib.hid ((he.on hb0).on hb1)
  have LA := Lib.hid la1
  have LB := Lib.hid lb1
  have B1 : Hid (Below w.heap.size w W1) := hb0.trans (hb1.mono hb0.size)
  have HW0 : Hid (W0 = w.alloc (.cells #[.string ⟨#[49, 47, 48]⟩, .int .i64 3] 33)) := hW0
  have HW1 : Hid (W1 = W0.alloc (.cells #[.string ⟨#[49, 47, 48]⟩, .int .i64 2, .string ⟨#[50, 47, 48]⟩, .int .i64 0] 33)) := hW1
  have HS0 := Lib.hid hs0
  have H23 := Lib.hid (labelJoin_any E1.out LA.out LB.out)
  clear he hW0 hW1 hb0 hb1 hs0 hs1 la0 la1 lb1
  go_enter Tryz.func7, Tryz.ntmps7
  go_wp2_with fail
  rw [← HW0.out, ← HS0.out, ← HW1.out]
  refine H23.out.mono ?_
  rintro e w2 ⟨hb2, A2, c2, m2, n2, hq2, rfl, hl2⟩
  obtain ⟨rfl, rfl⟩ := hq2.uniq join_first
  have E2 := Lib.hid (E1.out.on hb2)
  have LA2 := Lib.hid (LA.out.on hb2)
  have LB2 := Lib.hid (LB.out.on hb2)
  have LJ2 := Lib.hid hl2
  have B2 : Hid (Below w.heap.size w w2) := B1.out.trans (hb2.mono B1.out.size)
  have H25 := Lib.hid (labelMeet_any E2.out LA2.out LB2.out)
  clear hb2 hq2 hl2 H23
  go_wp2_with fail
  refine H25.out.mono ?_
  rintro e w3 ⟨hb3, A3, c3, m3, n3, hq3, rfl, hl3⟩
  obtain ⟨rfl, rfl⟩ := hq3.uniq meet_first
  have E3 := Lib.hid (E2.out.on hb3)
  have LA3 := Lib.hid (LA2.out.on hb3)
  have LB3 := Lib.hid (LB2.out.on hb3)
  have LJ3 := Lib.hid (LJ2.out.on hb3)
  have LM3 := Lib.hid hl3
  have B3 : Hid (Below w.heap.size w w3) := B2.out.trans (hb3.mono B2.out.size)
  have H11 := Lib.hid (with_any (s := [50, 47, 48]) (n := 2) E3.out LA3.out (by decide))
  clear hb3 hq3 hl3 H25
  go_wp2_with fail
  refine H11.out.mono ?_
  rintro e w4 ⟨hb4, A4, c4, m4, n4, hq4, rfl, hl4⟩
  obtain ⟨rfl, rfl⟩ := hq4.uniq with_first
  have hfw : fw.length = 2 := rfl
  rw [hfw]
  have E4 := Lib.hid (E3.out.on hb4)
  have LA4 := Lib.hid (LA3.out.on hb4)
  have LB4 := Lib.hid (LB3.out.on hb4)
  have LJ4 := Lib.hid (LJ3.out.on hb4)
  have LM4 := Lib.hid (LM3.out.on hb4)
  have B4 : Hid (Below w.heap.size w w4) := B3.out.trans (hb4.mono B3.out.size)
  have H22 := Lib.hid (same_any LJ4.out LA4.out (by decide))
  rw [decide_eq_true rfl] at H22
  clear hb4 hq4 hl4 H11
  go_wp2_with fail
  refine H22.out.mono ?_
  rintro e w5 ⟨rfl, hb5⟩
  have E5 := Lib.hid (E4.out.on hb5)
  have LA5 := Lib.hid (LA4.out.on hb5)
  have LB5 := Lib.hid (LB4.out.on hb5)
  have LM5 := Lib.hid (LM4.out.on hb5)
  have B5 : Hid (Below w.heap.size w w5) := B4.out.trans (hb5.mono B4.out.size)
  have H22b := Lib.hid (same_any LM5.out LB5.out (by decide))
  rw [decide_eq_true rfl] at H22b
  clear hb5 H22
  go_wp2_with fail
  refine H22b.out.mono ?_
  rintro e w6 ⟨rfl, hb6⟩
  have E6 := Lib.hid (E5.out.on hb6)
  have LA6 := Lib.hid (LA5.out.on hb6)
  have LB6 := Lib.hid (LB5.out.on hb6)
  have LM6 := Lib.hid (LM5.out.on hb6)
  have B6 : Hid (Below w.heap.size w w6) := B5.out.trans (hb6.mono B5.out.size)
  have H26 := Lib.hid (flows_any E6.out LM6.out LA6.out)
  rw [flows_ba] at H26
  clear hb6 H22b
  go_wp2_with fail
  refine H26.out.mono ?_
  rintro e w7 ⟨rfl, hb7⟩
  have E7 := Lib.hid (E6.out.on hb7)
  have LA7 := Lib.hid (LA6.out.on hb7)
  have LB7 := Lib.hid (LB6.out.on hb7)
  have B7 : Hid (Below w.heap.size w w7) := B6.out.trans (hb7.mono B6.out.size)
  have H26b := Lib.hid (flows_any E7.out LA7.out LB7.out)
  rw [flows_ab] at H26b
  clear hb7 H26
  go_wp2_with fail
  refine H26b.out.mono ?_
  rintro e w8 ⟨rfl, hb8⟩
  have E8 := Lib.hid (E7.out.on hb8)
  have LB8 := Lib.hid (LB7.out.on hb8)
  have B8 : Hid (Below w.heap.size w w8) := B7.out.trans (hb8.mono B7.out.size)
  have H18 := Lib.hid (labelText_any E8.out LB8.out (by decide) (fun e he => by simp [fb] at he; rcases he with rfl | rfl <;> decide) right_fb.wide)
  rw [text_fb] at H18
  have H18b : Hid (Calls Tryz.prog 18 #[.slice (some ⟨W0.heap.size, 0, none⟩) 2 2] w8 (RetB w8 (.string ⟨#[49, 47, 48, 61, 50, 44, 50, 47, 48, 61, 48]⟩))) := H18.out
  clear hb8 H26b H18
  go_wp2_with fail
  refine H18b.out.mono ?_
  rintro e w9 ⟨rfl, hb9⟩
  have E9 := Lib.hid (E8.out.on hb9)
  have LB9 := Lib.hid (LB8.out.on hb9)
  have B9 : Hid (Below w.heap.size w w9) := B8.out.trans (hb9.mono B8.out.size)
  have H15 := Lib.hid (level_any (s := [51, 47, 48]) (c := 2) LB9.out.ents (by decide))
  rw [lev_3] at H15
  clear hb9 H18b
  go_wp2_with fail
  refine H15.out.mono ?_
  rintro e w10 ⟨rfl, hb10⟩
  have E10 := Lib.hid (E9.out.on hb10)
  have LB10 := Lib.hid (LB9.out.on hb10)
  have B10 : Hid (Below w.heap.size w w10) := B9.out.trans (hb10.mono B9.out.size)
  have H14 := Lib.hid (labelRight_any (c := 2) E10.out LB10.out.ents LB10.out.txt LB10.out.len)
  rw [decide_eq_true right_fb] at H14
  clear hb10 H15
  go_wp2_with fail
  refine H14.out.mono ?_
  rintro e w11 ⟨rfl, hb11⟩
  have B11 : Hid (Below w.heap.size w w11) := B10.out.trans (hb11.mono B10.out.size)
  clear hb11 H14
  go_wp2_with fail
  go_ret
  exact ⟨rfl, B11.out⟩
end Go.Proofs.YtpokdihnimlgkaaGreatDoor
