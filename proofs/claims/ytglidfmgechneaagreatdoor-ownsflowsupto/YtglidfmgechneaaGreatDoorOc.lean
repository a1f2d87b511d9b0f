/- owns.Right, wrong, Union, Add. -/
import Derived.Test.YtglidfmgechneaaGreatDoorOb
import Derived.Test.YtglidfmgechneaaGreatDoorS
namespace Go.Proofs.YtglidfmgechneaaGreatDoor
open Go.RowKit

theorem own_cat_len {l : List (List UInt8)} (h : OwnL l) : ∀ x ∈ l, x.length ≤ 140737488351232 := fun x hx => cat_len (h.2.2 x hx)

set_option maxRecDepth 100000 in
theorem ownRight_any {w : World} {A : Option Addr} {c : Nat} {l : List (List UInt8)} (he : Env w) (hl : SL w A c l) :
    Calls Tryz.prog 16 #[.slice A l.length c] w (RetB w (.bool (decide (OwnL l)))) := by
  have HL := Lib.hid hl
  have hn := hl.len
  have H38 := Lib.hid (sort_any (c := c) he hl.strs hl.txt (by omega))
  clear he hl
  by_cases h8 : 8 < l.length
  · have HD : Hid (decide (OwnL l) = false) := decide_eq_false fun h => by have := h.1; omega
    have hle : ¬ ((l.length : Int) ≤ 8) := by omega
    go_enter Tryz.func16, Tryz.ntmps16
    go_wp2_with fail
    go_ret
    exact ⟨by rw [HD.out] <;> rfl, Below.refl _ _⟩
  have hle : (l.length : Int) ≤ 8 := by omega
  have h8' : l.length ≤ 8 := by omega
  clear h8
  go_enter Tryz.func16, Tryz.ntmps16
  go_wp2_with fail
  refine H38.out.mono ?_
  rintro e w1 ⟨hb1, A1, c1, R, rfl, hnil, hs1, hr1, hm1⟩
  have HD := Lib.hid (own_sort h8' hr1 hm1)
  have L1 := Lib.hid (HL.out.on hb1)
  have B1 := Lib.hid hb1
  have H43 := Lib.hid (equalS_any (c := c) (c' := c1) L1.out.strs hs1 hn)
  rw [HD.out] at H43
  clear hb1 hnil hs1 hr1 hm1 H38
  go_wp2_with fail
  refine H43.out.mono ?_
  rintro e w2 ⟨rfl, hb2⟩
  have B2 : Hid (Below w.heap.size w w2) := B1.out.trans (hb2.mono B1.out.size)
  clear hb2 H43
  go_wp2_with fail
  go_ret
  exact ⟨rfl, B2.out⟩

/-- What keeps a category from being added or dropped. -/
def wrongErr (l : List (List UInt8)) (c : List UInt8) : Int := if OwnL l then (if (catOf c).isSome = true then 0 else 20) else 2

set_option maxRecDepth 100000 in
theorem wrong_any {w : World} {A : Option Addr} {c : Nat} {l : List (List UInt8)} {s : List UInt8} (he : Env w) (hl : SL w A c l) (hs : s.length ≤ 140737488351232) :
    Calls Tryz.prog 33 #[.slice A l.length c, .string (str s)] w (RetB w (.int .i64 (wrongErr l s))) := by
  have HE := Lib.hid he
  have H16 := Lib.hid (ownRight_any he hl)
  clear he hl
  by_cases ho : ¬ OwnL l
  · rw [decide_eq_false ho] at H16
    have HD : Hid (wrongErr l s = 2) := if_neg ho
    clear ho
    go_enter Tryz.func33, Tryz.ntmps33
    go_wp2_with fail
    refine H16.out.mono ?_
    rintro e w1 ⟨rfl, hb1⟩
    have B1 := Lib.hid hb1
    clear hb1
    go_wp2_with fail
    go_ret
    exact ⟨by rw [HD.out] <;> rfl, B1.out⟩
  replace ho := Decidable.not_not.1 ho
  rw [decide_eq_true ho] at H16
  have HO := Lib.hid ho
  clear ho
  go_enter Tryz.func33, Tryz.ntmps33
  go_wp2_with fail
  refine H16.out.mono ?_
  rintro e w1 ⟨rfl, hb1⟩
  have B1 := Lib.hid hb1
  have H61 := Lib.hid (right_any (HE.out.on hb1) hs)
  clear hb1 H16
  cases hc : (catOf s).isSome with
  | false =>
    have HD : Hid (wrongErr l s = 20) := by unfold Hid wrongErr; rw [if_pos HO.out, if_neg (by rw [hc]; decide)]
    rw [hc] at H61
    clear hc
    go_wp2_with fail
    refine H61.out.mono ?_
    rintro e w2 ⟨rfl, hb2⟩
    have B2 : Hid (Below w.heap.size w w2) := B1.out.trans (hb2.mono B1.out.size)
    clear hb2 H61
    go_wp2_with fail
    go_ret
    exact ⟨by rw [HD.out] <;> rfl, B2.out⟩
  | true =>
    have HD : Hid (wrongErr l s = 0) := by unfold Hid wrongErr; rw [if_pos HO.out, if_pos hc]
    rw [hc] at H61
    clear hc
    go_wp2_with fail
    refine H61.out.mono ?_
    rintro e w2 ⟨rfl, hb2⟩
    have B2 : Hid (Below w.heap.size w w2) := B1.out.trans (hb2.mono B1.out.size)
    clear hb2 H61
    go_wp2_with fail
    go_ret
    exact ⟨by rw [HD.out] <;> rfl, B2.out⟩

/-- It returns a list and a number of which P holds. -/
def RetOwn (w : World) (P : List (List UInt8) → Int → Prop) (e : Ending) (w' : World) : Prop :=
  Below w.heap.size w w' ∧ ∃ A c R n, P R n ∧ e = .returned (.tuple #[.slice A R.length c, .int .i64 n]) ∧ SL w' A c R

set_option maxRecDepth 100000 in
theorem union_any {w : World} {A B : Option Addr} {c d : Nat} {a b : List (List UInt8)} (he : Env w) (ha : SL w A c a) (hb : SL w B d b) :
    Calls Tryz.prog 13 #[.slice A a.length c, .slice B b.length d] w (RetOwn w (UnionOut a b)) := by
  have HE := Lib.hid he
  have HA := Lib.hid ha
  have HB := Lib.hid hb
  have H16 := Lib.hid (ownRight_any he ha)
  clear he ha hb
  by_cases hoa : ¬ OwnL a
  · rw [decide_eq_false hoa] at H16
    have HD : Hid (UnionOut a b [] 2) := .inl ⟨fun h => hoa h.1, rfl, rfl⟩
    clear hoa
    go_enter Tryz.func13, Tryz.ntmps13
    go_wp2_with fail
    refine H16.out.mono ?_
    rintro e w1 ⟨rfl, hb1⟩
    have B1 := Lib.hid hb1
    clear hb1
    go_wp2_with fail
    go_ret2
    exact ⟨B1.out, none, 0, [], 2, HD.out, rfl, sl_nil _⟩
  replace hoa := Decidable.not_not.1 hoa
  rw [decide_eq_true hoa] at H16
  have OA := Lib.hid hoa
  clear hoa
  go_enter Tryz.func13, Tryz.ntmps13
  go_wp2_with fail
  refine H16.out.mono ?_
  rintro e w1 ⟨rfl, hb1⟩
  have B1 := Lib.hid hb1
  have E1 := Lib.hid (HE.out.on hb1)
  have A1 := Lib.hid (HA.out.on hb1)
  have C1 := Lib.hid (HB.out.on hb1)
  have H16b := Lib.hid (ownRight_any E1.out C1.out)
  clear hb1 H16
  by_cases hob : ¬ OwnL b
  · rw [decide_eq_false hob] at H16b
    have HD : Hid (UnionOut a b [] 2) := .inl ⟨fun h => hob h.2, rfl, rfl⟩
    clear hob
    go_wp2_with fail
    refine H16b.out.mono ?_
    rintro e w2 ⟨rfl, hb2⟩
    have B2 : Hid (Below w.heap.size w w2) := B1.out.trans (hb2.mono B1.out.size)
    clear hb2
    go_wp2_with fail
    go_ret2
    exact ⟨B2.out, none, 0, [], 2, HD.out, rfl, sl_nil _⟩
  replace hob := Decidable.not_not.1 hob
  rw [decide_eq_true hob] at H16b
  have OB := Lib.hid hob
  clear hob
  go_wp2_with fail
  refine H16b.out.mono ?_
  rintro e w2 ⟨rfl, hb2⟩
  have B2 : Hid (Below w.heap.size w w2) := B1.out.trans (hb2.mono B1.out.size)
  have E2 := Lib.hid (E1.out.on hb2)
  have A2 := Lib.hid (A1.out.on hb2)
  have C2 := Lib.hid (C1.out.on hb2)
  have hn8 : a.length + b.length ≤ 16 := by have h1 := OA.out.1; have h2 := OB.out.1; omega
  have hal : Below w2.heap.size w2 (w2.alloc (.cells #[.slice A a.length c, .slice B b.length d] 22)) := (Below.refl _ _).alloc (Nat.le_refl _) _
  have H39 := Lib.hid (concatS_any (w := w2.alloc (.cells #[.slice A a.length c, .slice B b.length d] 22)) (b := w2.heap.size) (o := 0) (by simp) (by simp) (by simp) (A2.out.on hal).strs (C2.out.on hal).strs A2.out.nil C2.out.nil (by omega))
  have HAL := Lib.hid hal
  clear hb2 H16b hal
  go_wp2_with fail
  refine H39.out.mono ?_
  rintro e w3 ⟨v, rfl, hrow, hb3⟩
  obtain ⟨L, hL⟩ : ∃ L, L = a ++ b := ⟨_, rfl⟩
  rw [← hL] at hrow
  obtain ⟨A', c', rfl, hstrs⟩ := hrow.strs
  have hll : L.length ≤ 16 := by rw [hL, List.length_append]; exact hn8
  have B3 : Hid (Below w2.heap.size w2 w3) := HAL.out.trans (hb3.mono HAL.out.size)
  have E3 := E2.out.on B3.out
  have HLX : ∀ x ∈ L, (catOf x).isSome = true := fun x hx => by
    rw [hL] at hx
    exact (List.mem_append.1 hx).elim (OA.out.2.2 x) (OB.out.2.2 x)
  have H38 := Lib.hid (sort_any (c := c') E3 hstrs (fun x hx => cat_len (HLX x hx)) (by omega))
  have HX := Lib.hid HLX
  have HLL := Lib.hid hL
  clear hb3 hrow hstrs H39 hL HLX E3
  go_wp2_with fail
  refine H38.out.mono ?_
  rintro e w4 ⟨hb4, A4, c4, R, rfl, hnil, hs4, hr4, hm4⟩
  have B4 : Hid (Below w.heap.size w w4) := B2.out.trans ((B3.out.trans (hb4.mono B3.out.size)).mono B2.out.size)
  have HMM : Hid (∀ x, x ∈ R ↔ x ∈ a ∨ x ∈ b) := fun x => by
    rw [hm4 x, HLL.out, ← List.mem_append]
    refine ⟨fun h => h.1, fun h => ⟨h, HX.out x ?_⟩⟩
    rw [HLL.out]
    exact h
  have hRc : Hid (∀ x ∈ R, x.length ≤ 140737488351232) := fun x hx => cat_len ((hm4 x).1 hx).2
  have S4 := Lib.hid hs4
  have N4 := Lib.hid hnil
  have R4 := Lib.hid hr4
  clear hb4 hnil hs4 hr4 hm4 H38
  by_cases h8 : 8 < R.length
  · have HD : Hid (UnionOut a b [] 34) := .inr ⟨OA.out, OB.out, R, R4.out, HMM.out, .inl ⟨h8, rfl, rfl⟩⟩
    have hgt : (R.length : Int) > 8 := by omega
    go_wp2_with fail
    go_ret2
    exact ⟨B4.out, none, 0, [], 34, HD.out, rfl, sl_nil _⟩
  · have HD : Hid (UnionOut a b R 0) := .inr ⟨OA.out, OB.out, R, R4.out, HMM.out, .inr ⟨by omega, rfl, rfl⟩⟩
    have hgt : ¬ (R.length : Int) > 8 := by omega
    have h8' : R.length ≤ 1000000 := by omega
    go_wp2_with fail
    go_ret2
    exact ⟨B4.out, A4, c4, R, 0, HD.out, rfl, ⟨S4.out, N4.out, hRc.out, h8'⟩⟩

/-- One string, just laid. -/
theorem sl_one (w : World) (s : List UInt8) (hs : s.length ≤ 140737488351232) : SL (w.alloc (.cells #[.string (str s)] 9)) (some ⟨w.heap.size, 0, none⟩) 1 [s] := by
  refine ⟨fun _ => ⟨w.heap.size, 0, rfl, by simp, fun k x hk => ?_⟩, (fun h => by cases h), by simpa using hs, by simp⟩
  cases k with
  | zero =>
    simp at hk
    subst hk
    simp
  | succ k => simp at hk

set_option maxRecDepth 100000 in
theorem add_any {w : World} {A : Option Addr} {c : Nat} {l : List (List UInt8)} {s : List UInt8} (he : Env w) (hl : SL w A c l) (hs : s.length ≤ 140737488351232) :
    Calls Tryz.prog 9 #[.slice A l.length c, .string (str s)] w (RetOwn w (AddOut l s)) := by
  have HE := Lib.hid he
  have HL := Lib.hid hl
  have H33 := Lib.hid (wrong_any he hl hs)
  clear he hl
  by_cases ho : ¬ OwnL l
  · have hz : wrongErr l s = 2 := if_neg ho
    have HD : Hid (AddOut l s [] 2) := .inl ⟨ho, rfl, rfl⟩
    rw [hz] at H33
    clear ho hz
    go_enter Tryz.func9, Tryz.ntmps9
    go_wp2_with fail
    refine H33.out.mono ?_
    rintro e w1 ⟨rfl, hb1⟩
    have B1 := Lib.hid hb1
    clear hb1
    go_wp2_with fail
    go_ret2
    exact ⟨B1.out, none, 0, [], 2, HD.out, rfl, sl_nil _⟩
  replace ho := Decidable.not_not.1 ho
  cases hc : (catOf s).isSome with
  | false =>
    have hz : wrongErr l s = 20 := by unfold wrongErr; rw [if_pos ho, if_neg (by rw [hc]; decide)]
    have HD : Hid (AddOut l s [] 20) := .inr (.inl ⟨ho, hc, rfl, rfl⟩)
    rw [hz] at H33
    clear ho hz hc
    go_enter Tryz.func9, Tryz.ntmps9
    go_wp2_with fail
    refine H33.out.mono ?_
    rintro e w1 ⟨rfl, hb1⟩
    have B1 := Lib.hid hb1
    clear hb1
    go_wp2_with fail
    go_ret2
    exact ⟨B1.out, none, 0, [], 20, HD.out, rfl, sl_nil _⟩
  | true =>
    have hz : wrongErr l s = 0 := by unfold wrongErr; rw [if_pos ho, if_pos hc]
    have HD : Hid (∀ R n, UnionOut l [s] R n → AddOut l s R n) := fun R n h => .inr (.inr ⟨ho, hc, h⟩)
    rw [hz] at H33
    clear ho hz hc
    go_enter Tryz.func9, Tryz.ntmps9
    go_wp2_with fail
    refine H33.out.mono ?_
    rintro e w1 ⟨rfl, hb1⟩
    have B1 := Lib.hid hb1
    have hal : Below w1.heap.size w1 (w1.alloc (.cells #[.string (str s)] 9)) := (Below.refl _ _).alloc (Nat.le_refl _) _
    have H13 : Hid (Calls Tryz.prog 13 #[.slice A l.length c, .slice (some ⟨w1.heap.size, 0, none⟩) 1 1] (w1.alloc (.cells #[.string (str s)] 9)) (RetOwn (w1.alloc (.cells #[.string (str s)] 9)) (UnionOut l [s]))) :=
      union_any ((HE.out.on hb1).on hal) ((HL.out.on hb1).on hal) (sl_one w1 s hs)
    have HAL := Lib.hid hal
    clear hb1 hal
    go_wp2_with fail
    refine H13.out.mono ?_
    rintro e w2 ⟨hb2, A2, c2, R, n, hq, rfl, hsl⟩
    have B2 : Hid (Below w.heap.size w w2) := B1.out.trans ((HAL.out.trans (hb2.mono HAL.out.size)).mono B1.out.size)
    have HQ := Lib.hid hq
    have HS := Lib.hid hsl
    clear hb2 hq hsl H13
    go_wp2_with fail
    go_ret2
    exact ⟨B2.out, A2, c2, R, n, HD.out _ _ HQ.out, rfl, HS.out⟩
end Go.Proofs.YtglidfmgechneaaGreatDoor
