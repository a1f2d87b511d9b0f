/- The law's helper 'first'. -/
import Derived.Test.YtglidfmgechneaaGreatDoorOf
import Derived.Test.YtglidfmgechneaaGreatDoorOg
namespace Go.Proofs.YtglidfmgechneaaGreatDoor
open Go.RowKit

theorem d0 : Lib.decDigits 0 = [48] := Lib.decDigits_one (by omega)
theorem d1 : Lib.decDigits 1 = [49] := Lib.decDigits_one (by omega)
theorem t_1 : catText [1] 0 = [49, 47, 48] := by simp [catText, pathText, joinDot, d1, d0]
theorem c_1 : catOf [49, 47, 48] = some ([1], 0) := catOf_iff.2 ⟨by decide, t_1.symm⟩
theorem s_1 : (catOf [49, 47, 48]).isSome = true := by rw [c_1]; rfl
def fa : List Ent := [([49, 47, 48], 3)]
def fl : List (List UInt8) := [[49, 47, 48]]
theorem own_fl : OwnL fl := own_one s_1
theorem right_fa : RightL fa := ⟨by decide, fun e he => by
  rw [List.mem_singleton.1 he]
  exact ⟨entErr_zero.2 ⟨s_1, by decide⟩, by decide⟩, List.pairwise_singleton _ _⟩
theorem right_nil : RightL [] := ⟨by decide, by simp, List.Pairwise.nil⟩
theorem add_first : AddOut [] [49, 47, 48] fl 0 := .inr (.inr ⟨own_nil, s_1, .inr ⟨own_nil, own_fl, fl, own_fl.2.1, fun x => by simp [fl], .inr ⟨by decide, rfl, rfl⟩⟩⟩)
theorem drop_first : DropOut fl [49, 47, 48] [] 0 := .inr (.inr (.inr ⟨own_fl, s_1, by simp [fl], by simp [fl, dropC], rfl⟩))
theorem drop_second : DropOut [] [49, 47, 48] [] 36 := .inr (.inr (.inl ⟨own_nil, s_1, by simp, rfl, rfl⟩))
theorem lev_fa : lev fa [49, 47, 48] = 3 := rfl
theorem lev_none1 (s : List UInt8) : lev [] s = 1 := rfl
theorem f_1 : decide (FlowsO fa [] fl) = true := decide_eq_true ⟨right_fa, right_nil, own_fl, fun e he => .inl (by
  simp [fa] at he
  rw [he]
  simp [fl])⟩
theorem f_2 : decide (FlowsO fa [] []) = false := decide_eq_false fun h => by
  have h1 := h.2.2.2 ([49, 47, 48], 3) (by simp [fa])
  rcases h1 with h1 | h1
  · cases h1
  · rw [show ((([49, 47, 48], 3) : Ent)).1 = [49, 47, 48] from rfl, lev_fa, lev_none1] at h1
    omega
theorem f_3 : decide (FlowsO [] fa []) = true := decide_eq_true ⟨right_nil, right_fa, own_nil, fun e he => .inr (by
  simp [fa] at he
  rw [he]
  show lev [] [49, 47, 48] ≤ lev fa [49, 47, 48]
  rw [lev_fa, lev_none1]
  omega)⟩
theorem f_4 : decide (AltersO fa [] fl) = true := decide_eq_true ⟨of_decide_eq_true f_1, ⟨right_nil, right_fa, own_fl, fun e he => .inl (by
  simp [fa] at he
  rw [he]
  simp [fl])⟩⟩
theorem f_5 : decide (AltersO [] fa []) = false := decide_eq_false fun h => absurd h.2 (of_decide_eq_false f_2)
theorem f_6 : decide (WithinL fl fl) = true := decide_eq_true ⟨own_fl, own_fl, fun _ h => h⟩
theorem f_7 : decide ([49, 47, 48] ∈ fl) = true := decide_eq_true (by simp [fl])
theorem lab_nil (w : World) : Lab w none 0 [] := ⟨Ents.nil _ _ _, fun _ => rfl, by simp, by simp⟩

/-- Entries, just laid. -/
theorem ents_new (w : World) (l : List Ent) : Ents (w.alloc (.cells (entCells l).toArray 52)) (w.heap.size + 1) (some ⟨w.heap.size, 0, none⟩) l := fun _ => by
  refine ⟨w.heap.size, 0, rfl, by omega, fun k s n hk => ?_⟩
  obtain ⟨e1, e2⟩ := entCells_at hk
  rw [cell_of_row _ _ _ _ _ _ (heap_alloc_new w _), cell_of_row _ _ _ _ _ _ (heap_alloc_new w _), Nat.zero_add]
  simp only [List.getElem?_toArray]
  exact ⟨e1, e2⟩
theorem short_fa : ∀ e ∈ fa, e.1.length ≤ 140737488351232 := fun e he => cat_len (entErr_zero.1 (right_fa.2.1 e he).1).1

set_option maxRecDepth 100000 in
set_option maxHeartbeats 2000000 in
theorem first_any {w : World} (he : Env w) : Calls Tryz.prog 7 #[] w (Fine w) := by
  obtain ⟨W0, hW0⟩ : ∃ W0, W0 = w.alloc (.cells (entCells fa).toArray 52) := ⟨_, rfl⟩
  have hb0 : Below w.heap.size w W0 := by rw [hW0]; exact (Below.refl _ _).alloc (Nat.le_refl _) _
  have hs0 : W0.heap.size = w.heap.size + 1 := by rw [hW0]; simp
  have la0 : Lab W0 (some ⟨w.heap.size, 0, none⟩) 1 fa := ⟨by rw [hs0, hW0]; exact ents_new w fa, fun h => (by cases h), short_fa, by unfold maxLen; decide⟩
  have E1 := Lib.hid (he.on hb0)
  have LA1 := Lib.hid la0
  have B1 := Lib.hid hb0
  have HW0 : Hid (W0 = w.alloc (.cells #[.string ⟨#[49, 47, 48]⟩, .int .i64 3] 52)) := hW0
  have H9 : Hid (Calls Tryz.prog 9 #[.slice none 0 0, .string ⟨#[49, 47, 48]⟩] W0 (RetOwn W0 (AddOut [] [49, 47, 48]))) := add_any (s := [49, 47, 48]) E1.out (sl_nil W0) (by decide)
  clear he hW0 hb0 hs0 la0
  go_enter Tryz.func7, Tryz.ntmps7
  go_wp2_with fail
  rw [← HW0.out]
  refine H9.out.mono ?_
  rintro e w2 ⟨hb2, A2, c2, m2, n2, hq2, rfl, hl2⟩
  obtain ⟨rfl, rfl⟩ := hq2.uniq add_first
  have hlen : ((fl.length : Int) == (1 : Int)) = true := rfl
  have E2 := Lib.hid (E1.out.on hb2)
  have LA2 := Lib.hid (LA1.out.on hb2)
  have L2 := Lib.hid hl2
  have B2 : Hid (Below w.heap.size w w2) := B1.out.trans (hb2.mono B1.out.size)
  have H11 : Hid (Calls Tryz.prog 11 #[.slice A2 fl.length c2, .string ⟨#[49, 47, 48]⟩] w2 (RetOwn w2 (DropOut fl [49, 47, 48]))) := drop_any (s := [49, 47, 48]) E2.out L2.out (by decide)
  clear hb2 hq2 hl2 H9
  go_wp2_with fail
  refine H11.out.mono ?_
  rintro e w3 ⟨hb3, A3, c3, m3, n3, hq3, rfl, hl3⟩
  obtain ⟨rfl, rfl⟩ := hq3.uniq drop_first
  have E3 := Lib.hid (E2.out.on hb3)
  have LA3 := Lib.hid (LA2.out.on hb3)
  have L3 := Lib.hid (L2.out.on hb3)
  have M3 := Lib.hid hl3
  have B3 : Hid (Below w.heap.size w w3) := B2.out.trans (hb3.mono B2.out.size)
  have H11b : Hid (Calls Tryz.prog 11 #[.slice A3 0 c3, .string ⟨#[49, 47, 48]⟩] w3 (RetOwn w3 (DropOut [] [49, 47, 48]))) := drop_any (s := [49, 47, 48]) E3.out M3.out (by decide)
  clear hb3 hq3 hl3 H11
  go_wp2_with fail
  refine H11b.out.mono ?_
  rintro e w4 ⟨hb4, A4, c4, m4, n4, hq4, rfl, hl4⟩
  obtain ⟨rfl, rfl⟩ := hq4.uniq drop_second
  have E4 := Lib.hid (E3.out.on hb4)
  have LA4 := Lib.hid (LA3.out.on hb4)
  have L4 := Lib.hid (L3.out.on hb4)
  have B4 : Hid (Below w.heap.size w w4) := B3.out.trans (hb4.mono B3.out.size)
  have HC4 : Hid (Calls Tryz.prog 25 #[.slice (some ⟨w.heap.size, 0, none⟩) 1 1, .slice none 0 0, .slice A2 fl.length c2] w4 (RetB w4 (.bool true))) := by
    have h := flowsO_any E4.out LA4.out (lab_nil w4) L4.out
    rw [f_1] at h
    exact h
  clear hb4 hq4 hl4 H11b
  go_wp2_with fail
  refine HC4.out.mono ?_
  rintro e w5 ⟨rfl, hb5⟩
  have E5 := Lib.hid (E4.out.on hb5)
  have LA5 := Lib.hid (LA4.out.on hb5)
  have L5 := Lib.hid (L4.out.on hb5)
  have B5 : Hid (Below w.heap.size w w5) := B4.out.trans (hb5.mono B4.out.size)
  have HC5 : Hid (Calls Tryz.prog 25 #[.slice (some ⟨w.heap.size, 0, none⟩) 1 1, .slice none 0 0, .slice none 0 0] w5 (RetB w5 (.bool false))) := by
    have h := flowsO_any E5.out LA5.out (lab_nil w5) (sl_nil w5)
    rw [f_2] at h
    exact h
  clear hb5 HC4
  go_wp2_with fail
  refine HC5.out.mono ?_
  rintro e w6 ⟨rfl, hb6⟩
  have E6 := Lib.hid (E5.out.on hb6)
  have LA6 := Lib.hid (LA5.out.on hb6)
  have L6 := Lib.hid (L5.out.on hb6)
  have B6 : Hid (Below w.heap.size w w6) := B5.out.trans (hb6.mono B5.out.size)
  have HC6 : Hid (Calls Tryz.prog 27 #[.slice (some ⟨w.heap.size, 0, none⟩) 1 1, .slice none 0 0, .slice A2 fl.length c2] w6 (RetB w6 (.bool true))) := by
    have h := sees_any E6.out LA6.out (lab_nil w6) L6.out
    rw [f_1] at h
    exact h
  clear hb6 HC5
  go_wp2_with fail
  refine HC6.out.mono ?_
  rintro e w7 ⟨rfl, hb7⟩
  have E7 := Lib.hid (E6.out.on hb7)
  have LA7 := Lib.hid (LA6.out.on hb7)
  have L7 := Lib.hid (L6.out.on hb7)
  have B7 : Hid (Below w.heap.size w w7) := B6.out.trans (hb7.mono B6.out.size)
  have HC7 : Hid (Calls Tryz.prog 28 #[.slice (some ⟨w.heap.size, 0, none⟩) 1 1, .slice none 0 0, .slice A2 fl.length c2] w7 (RetB w7 (.bool true))) := by
    have h := alters_any E7.out LA7.out (lab_nil w7) L7.out
    rw [f_4] at h
    exact h
  clear hb7 HC6
  go_wp2_with fail
  refine HC7.out.mono ?_
  rintro e w8 ⟨rfl, hb8⟩
  have E8 := Lib.hid (E7.out.on hb8)
  have LA8 := Lib.hid (LA7.out.on hb8)
  have L8 := Lib.hid (L7.out.on hb8)
  have B8 : Hid (Below w.heap.size w w8) := B7.out.trans (hb8.mono B7.out.size)
  have HC8 : Hid (Calls Tryz.prog 28 #[.slice none 0 0, .slice (some ⟨w.heap.size, 0, none⟩) 1 1, .slice none 0 0] w8 (RetB w8 (.bool false))) := by
    have h := alters_any E8.out (lab_nil w8) LA8.out (sl_nil w8)
    rw [f_5] at h
    exact h
  clear hb8 HC7
  go_wp2_with fail
  refine HC8.out.mono ?_
  rintro e w9 ⟨rfl, hb9⟩
  have E9 := Lib.hid (E8.out.on hb9)
  have LA9 := Lib.hid (LA8.out.on hb9)
  have L9 := Lib.hid (L8.out.on hb9)
  have B9 : Hid (Below w.heap.size w w9) := B8.out.trans (hb9.mono B8.out.size)
  have HC9 : Hid (Calls Tryz.prog 27 #[.slice none 0 0, .slice (some ⟨w.heap.size, 0, none⟩) 1 1, .slice none 0 0] w9 (RetB w9 (.bool true))) := by
    have h := sees_any E9.out (lab_nil w9) LA9.out (sl_nil w9)
    rw [f_3] at h
    exact h
  clear hb9 HC8
  go_wp2_with fail
  refine HC9.out.mono ?_
  rintro e w10 ⟨rfl, hb10⟩
  have E10 := Lib.hid (E9.out.on hb10)
  have LA10 := Lib.hid (LA9.out.on hb10)
  have L10 := Lib.hid (L9.out.on hb10)
  have B10 : Hid (Below w.heap.size w w10) := B9.out.trans (hb10.mono B9.out.size)
  have HC10 : Hid (Calls Tryz.prog 20 #[.slice A2 fl.length c2, .slice A2 fl.length c2] w10 (RetB w10 (.bool true))) := by
    have h := within_any E10.out L10.out L10.out
    rw [f_6] at h
    exact h
  clear hb10 HC9
  go_wp2_with fail
  refine HC10.out.mono ?_
  rintro e w11 ⟨rfl, hb11⟩
  have E11 := Lib.hid (E10.out.on hb11)
  have LA11 := Lib.hid (LA10.out.on hb11)
  have L11 := Lib.hid (L10.out.on hb11)
  have B11 : Hid (Below w.heap.size w w11) := B10.out.trans (hb11.mono B10.out.size)
  have H18 : Hid (Calls Tryz.prog 18 #[.slice A2 fl.length c2, .string ⟨#[49, 47, 48]⟩] w11 fun e w' => e = .returned (.bool true) ∧ w11 = w') := by
    have h := has_any (c := c2) (s := [49, 47, 48]) L11.out.strs L11.out.len
    rw [f_7] at h
    exact h
  clear hb11 HC10
  go_wp2_with fail
  refine H18.out.mono ?_
  rintro e w' ⟨rfl, rfl⟩
  go_wp2_with fail
  go_ret
  exact ⟨rfl, B11.out⟩
end Go.Proofs.YtglidfmgechneaaGreatDoor
