/- The reference's Union, Add, Drop, Within. -/
import Derived.Test.YtglidfmgechneaaGreatDoorRg
import Derived.Test.YtglidfmgechneaaGreatDoorW
namespace Go.Proofs.YtglidfmgechneaaGreatDoor
open Go.RowKit

/-- A slice of strings that the reference may be asked of, as it lies. -/
structure RL (w : World) (A : Option Addr) (c : Nat) (l : List (List UInt8)) : Prop where
  strs : Strs w w.heap.size A l
  nil : A = none → c = 0
  txt : ∀ x ∈ l, x.length ≤ 1048576
  len : l.length ≤ 1000000
theorem RL.on {w w' : World} {A : Option Addr} {c : Nat} {l : List (List UInt8)} (h : RL w A c l) (hb : Below w.heap.size w w') : RL w' A c l :=
  ⟨(h.strs.below hb).more hb.size, h.nil, h.txt, h.len⟩

/-- It returns a list and a number of which P holds. -/
def RetO (w : World) (P : List (List UInt8) → Int → Prop) (e : Ending) (w' : World) : Prop :=
  Below w.heap.size w w' ∧ ∃ A c R n, P R n ∧ e = .returned (.tuple #[.slice A R.length c, .int .i64 n]) ∧ Strs w' w'.heap.size A R
theorem strs_nil (w : World) (B : Nat) (A : Option Addr) : Strs w B A [] := fun h => absurd h (by simp)

set_option maxRecDepth 100000 in
theorem refUnion_any {w : World} {A B : Option Addr} {c d : Nat} {a b : List (List UInt8)} (ha : RL w A c a) (hb : RL w B d b) :
    Calls Tryz.prog 14 #[.slice A a.length c, .slice B b.length d] w (RetO w (UnionOut a b)) := by
  have HA := Lib.hid ha
  have HB := Lib.hid hb
  have H17 := Lib.hid (refRightO_any (c := c) ha.strs ha.txt ha.len)
  clear ha hb
  by_cases hoa : ¬ OwnL a
  · rw [decide_eq_false hoa] at H17
    have HD : Hid (UnionOut a b [] 2) := .inl ⟨fun h => hoa h.1, rfl, rfl⟩
    clear hoa
    go_enter Tryz.func14, Tryz.ntmps14
    go_wp2_with fail
    refine H17.out.mono ?_
    rintro e w1 ⟨rfl, hb1⟩
    have B1 := Lib.hid hb1
    clear hb1
    go_wp2_with fail
    go_ret2
    exact ⟨B1.out, none, 0, [], 2, HD.out, rfl, strs_nil _ _ _⟩
  replace hoa := Decidable.not_not.1 hoa
  rw [decide_eq_true hoa] at H17
  have OA := Lib.hid hoa
  clear hoa
  go_enter Tryz.func14, Tryz.ntmps14
  go_wp2_with fail
  refine H17.out.mono ?_
  rintro e w1 ⟨rfl, hb1⟩
  have B1 := Lib.hid hb1
  have A1 := Lib.hid (HA.out.on hb1)
  have C1 := Lib.hid (HB.out.on hb1)
  have H17b := Lib.hid (refRightO_any (c := d) C1.out.strs C1.out.txt C1.out.len)
  clear hb1 H17
  by_cases hob : ¬ OwnL b
  · rw [decide_eq_false hob] at H17b
    have HD : Hid (UnionOut a b [] 2) := .inl ⟨fun h => hob h.2, rfl, rfl⟩
    clear hob
    go_wp2_with fail
    refine H17b.out.mono ?_
    rintro e w2 ⟨rfl, hb2⟩
    have B2 : Hid (Below w.heap.size w w2) := B1.out.trans (hb2.mono B1.out.size)
    clear hb2
    go_wp2_with fail
    go_ret2
    exact ⟨B2.out, none, 0, [], 2, HD.out, rfl, strs_nil _ _ _⟩
  replace hob := Decidable.not_not.1 hob
  rw [decide_eq_true hob] at H17b
  have OB := Lib.hid hob
  clear hob
  go_wp2_with fail
  refine H17b.out.mono ?_
  rintro e w2 ⟨rfl, hb2⟩
  have B2 : Hid (Below w.heap.size w w2) := B1.out.trans (hb2.mono B1.out.size)
  have A2 := Lib.hid (A1.out.on hb2)
  have C2 := Lib.hid (C1.out.on hb2)
  have hn8 : a.length + b.length ≤ 16 := by have h1 := OA.out.1; have h2 := OB.out.1; omega
  have hle : ([] : List (List UInt8)).length + a.length ≤ 1000001 := by simp; omega
  have hr0 : Hid (StrRow (w2.alloc (.cells #[] 9)) w2.heap.size (.slice (some ⟨w2.heap.size, 0, none⟩) 0 0) []) := World.ownsRow_lit (base := w2.heap.size) w2 #[] 0 (Nat.le_refl _) (by unfold maxLen; omega) rfl
  have hal : Hid (Below w2.heap.size w2 (w2.alloc (.cells #[] 9))) := (Below.refl _ _).alloc (Nat.le_refl _) _
  have hsz : w2.heap.size ≤ (w2.alloc (.cells #[] 9)).heap.size := by simp
  clear hb2 H17b
  go_wp2_with (first
    | (at_builtin; refine wpList_append_strs rfl _ _ rfl w2.heap.size _ [] rfl hr0.out w2.heap.size A c a rfl (A2.out.strs.below hal.out) A2.out.nil hle hsz ?_))
  intro v3 w3 hr3 hb3
  have B3 : Hid (Below w2.heap.size w2 w3) := hal.out.trans hb3
  have hs3 := B3.out.size
  have R3 : Hid (StrRow w3 w2.heap.size v3 a) := hr3
  have hle3 : a.length + b.length ≤ 1000001 := by omega
  clear hr3 hb3 hr0 hal hsz
  go_wp2_with (first
    | (at_builtin; refine wpList_append_strs rfl _ _ rfl w2.heap.size _ a rfl R3.out w2.heap.size B d b rfl (C2.out.strs.below B3.out) C2.out.nil hle3 hs3 ?_))
  intro v4 w4 hr4 hb4
  have B4 : Hid (Below w2.heap.size w2 w4) := B3.out.trans hb4
  obtain ⟨L, hL⟩ : ∃ L, L = a ++ b := ⟨_, rfl⟩
  rw [← hL] at hr4
  obtain ⟨A', c', rfl, hstrs⟩ := hr4.strs
  have hll : L.length ≤ 16 := by rw [hL, List.length_append]; exact hn8
  have HLX : ∀ x ∈ L, (catOf x).isSome = true := fun x hx => by
    rw [hL] at hx
    exact (List.mem_append.1 hx).elim (OA.out.2.2 x) (OB.out.2.2 x)
  have H40 := Lib.hid (refSort_any (c := c') hstrs (fun x hx => cat_short (HLX x hx)) (by omega))
  have HX := Lib.hid HLX
  have HLL := Lib.hid hL
  clear hr4 hb4 hstrs hL HLX R3
  go_wp2_with fail
  refine H40.out.mono ?_
  rintro e w5 ⟨hb5, A5, c5, R, rfl, hs5, hr5, hm5⟩
  have B5 : Hid (Below w.heap.size w w5) := B2.out.trans ((B4.out.trans (hb5.mono B4.out.size)).mono B2.out.size)
  have HMM : Hid (∀ x, x ∈ R ↔ x ∈ a ∨ x ∈ b) := fun x => by
    rw [hm5 x, HLL.out, ← List.mem_append]
    refine ⟨fun h => h.1, fun h => ⟨h, HX.out x ?_⟩⟩
    rw [HLL.out]
    exact h
  have S5 := Lib.hid hs5
  have R5 := Lib.hid hr5
  clear hb5 hs5 hr5 hm5 H40
  by_cases h8 : 8 < R.length
  · have HD : Hid (UnionOut a b [] 34) := .inr ⟨OA.out, OB.out, R, R5.out, HMM.out, .inl ⟨h8, rfl, rfl⟩⟩
    have hgt : (R.length : Int) > 8 := by omega
    go_wp2_with fail
    go_ret2
    exact ⟨B5.out, none, 0, [], 34, HD.out, rfl, strs_nil _ _ _⟩
  · have HD : Hid (UnionOut a b R 0) := .inr ⟨OA.out, OB.out, R, R5.out, HMM.out, .inr ⟨by omega, rfl, rfl⟩⟩
    have hgt : ¬ (R.length : Int) > 8 := by omega
    go_wp2_with fail
    go_ret2
    exact ⟨B5.out, A5, c5, R, 0, HD.out, rfl, S5.out⟩

theorem rl_one (w : World) (s : List UInt8) (hs : s.length ≤ 1048576) : RL (w.alloc (.cells #[.string (str s)] 9)) (some ⟨w.heap.size, 0, none⟩) 1 [s] := by
  refine ⟨fun _ => ⟨w.heap.size, 0, rfl, by simp, fun k x hk => ?_⟩, (fun h => by cases h), by simpa using hs, by simp⟩
  cases k with
  | zero =>
    simp at hk
    subst hk
    simp
  | succ k => simp at hk

set_option maxRecDepth 100000 in
theorem refAdd_any {w : World} {A : Option Addr} {c : Nat} {l : List (List UInt8)} {s : List UInt8} (hl : RL w A c l) (hs : s.length ≤ 1048576) :
    Calls Tryz.prog 10 #[.slice A l.length c, .string (str s)] w (RetO w (AddOut l s)) := by
  have HL := Lib.hid hl
  have H17 := Lib.hid (refRightO_any (c := c) hl.strs hl.txt hl.len)
  clear hl
  by_cases ho : ¬ OwnL l
  · rw [decide_eq_false ho] at H17
    have HD : Hid (AddOut l s [] 2) := .inl ⟨ho, rfl, rfl⟩
    clear ho
    go_enter Tryz.func10, Tryz.ntmps10
    go_wp2_with fail
    refine H17.out.mono ?_
    rintro e w1 ⟨rfl, hb1⟩
    have B1 := Lib.hid hb1
    clear hb1
    go_wp2_with fail
    go_ret2
    exact ⟨B1.out, none, 0, [], 2, HD.out, rfl, strs_nil _ _ _⟩
  replace ho := Decidable.not_not.1 ho
  rw [decide_eq_true ho] at H17
  have HO := Lib.hid ho
  clear ho
  go_enter Tryz.func10, Tryz.ntmps10
  go_wp2_with fail
  refine H17.out.mono ?_
  rintro e w1 ⟨rfl, hb1⟩
  have B1 := Lib.hid hb1
  have L1 := Lib.hid (HL.out.on hb1)
  have H34 := Lib.hid (get_any (w := w1) hs)
  clear hb1 H17
  go_wp2_with fail
  refine H34.out.mono ?_
  rintro e w2 ⟨hb2, (⟨p, n, v, hc2, rfl, hrow2⟩ | ⟨hc2, rfl⟩)⟩
  case inr =>
    have HD : Hid (AddOut l s [] 20) := .inr (.inl ⟨HO.out, by rw [hc2]; rfl, rfl, rfl⟩)
    have B2 := Lib.hid hb2
    clear hb2 hc2 H34
    go_wp2_with fail
    go_ret2
    exact ⟨B1.out.trans ((B2.out.alloc B2.out.size _).mono B1.out.size), none, 0, [], 20, HD.out, rfl, strs_nil _ _ _⟩
  obtain ⟨A2, cc2, rfl⟩ := hrow2.slice
  have HD : Hid (∀ R n, UnionOut l [s] R n → AddOut l s R n) := fun R n h => .inr (.inr ⟨HO.out, by rw [hc2]; rfl, h⟩)
  obtain ⟨W0, hW0⟩ : ∃ W0, W0 = w2.alloc (.cells #[.slice A2 p.length cc2, .int .i64 (n : Int)] 56) := ⟨_, rfl⟩
  have BW0 : Hid (Below w1.heap.size w1 W0) := by rw [hW0]; exact hb2.alloc hb2.size _
  have hal : Below W0.heap.size W0 (W0.alloc (.cells #[.string (str s)] 9)) := (Below.refl _ _).alloc (Nat.le_refl _) _
  have H14 : Hid (Calls Tryz.prog 14 #[.slice A l.length c, .slice (some ⟨W0.heap.size, 0, none⟩) 1 1] (W0.alloc (.cells #[.string (str s)] 9)) (RetO (W0.alloc (.cells #[.string (str s)] 9)) (UnionOut l [s]))) :=
    refUnion_any ((L1.out.on BW0.out).on hal) (rl_one W0 s hs)
  have HAL := Lib.hid hal
  have hs0 : W0.heap.size = w2.heap.size + 1 := by rw [hW0]; simp
  have HW0 := Lib.hid hW0
  have HS0 := Lib.hid hs0
  clear hb2 hc2 hrow2 H34 hal hW0 hs0
  go_wp2_with fail
  rw [← HW0.out, ← HS0.out]
  refine H14.out.mono ?_
  rintro e w3 ⟨hb3, A3, c3, R, z, hq, rfl, hsl⟩
  have B3 : Hid (Below w.heap.size w w3) := B1.out.trans ((BW0.out.trans ((HAL.out.trans (hb3.mono HAL.out.size)).mono BW0.out.size)).mono B1.out.size)
  have HQ := Lib.hid hq
  have HS := Lib.hid hsl
  clear hb3 hq hsl H14
  go_wp2_with fail
  go_ret2
  exact ⟨B3.out, A3, c3, R, z, HD.out _ _ HQ.out, rfl, HS.out⟩

def DropRel (w : World) (l : List (List UInt8)) (s : List UInt8) (k : Nat) (v i : Value) (wr : World) : Prop :=
  ∃ m, m + k = l.length ∧ i = .int .i64 (m : Int) ∧ StrRow wr w.heap.size v (dropC (l.take m) s) ∧ Below w.heap.size w wr

set_option maxRecDepth 100000 in
set_option maxHeartbeats 1000000 in
theorem refDrop_any {w : World} {A : Option Addr} {c : Nat} {l : List (List UInt8)} {s : List UInt8} (hl : RL w A c l) (hs : s.length ≤ 1048576) :
    Calls Tryz.prog 12 #[.slice A l.length c, .string (str s)] w (RetO w (DropOut l s)) := by
  have HL := Lib.hid hl
  have H17 := Lib.hid (refRightO_any (c := c) hl.strs hl.txt hl.len)
  clear hl
  by_cases ho : ¬ OwnL l
  · rw [decide_eq_false ho] at H17
    have HD : Hid (DropOut l s [] 2) := .inl ⟨ho, rfl, rfl⟩
    clear ho
    go_enter Tryz.func12, Tryz.ntmps12
    go_wp2_with fail
    refine H17.out.mono ?_
    rintro e w1 ⟨rfl, hb1⟩
    have B1 := Lib.hid hb1
    clear hb1
    go_wp2_with fail
    go_ret2
    exact ⟨B1.out, none, 0, [], 2, HD.out, rfl, strs_nil _ _ _⟩
  replace ho := Decidable.not_not.1 ho
  rw [decide_eq_true ho] at H17
  have HO := Lib.hid ho
  have hl8 := ho.1
  clear ho
  go_enter Tryz.func12, Tryz.ntmps12
  go_wp2_with fail
  refine H17.out.mono ?_
  rintro e w1 ⟨rfl, hb1⟩
  have B1 := Lib.hid hb1
  have L1 := Lib.hid (HL.out.on hb1)
  have H34 := Lib.hid (get_any (w := w1) hs)
  clear hb1 H17
  go_wp2_with fail
  refine H34.out.mono ?_
  rintro e w2 ⟨hb2, (⟨p, n, v, hc2, rfl, hrow2⟩ | ⟨hc2, rfl⟩)⟩
  case inr =>
    have HD : Hid (DropOut l s [] 20) := .inr (.inl ⟨HO.out, by rw [hc2]; rfl, rfl, rfl⟩)
    have B2 := Lib.hid hb2
    clear hb2 hc2 H34
    go_wp2_with fail
    go_ret2
    exact ⟨B1.out.trans ((B2.out.alloc B2.out.size _).mono B1.out.size), none, 0, [], 20, HD.out, rfl, strs_nil _ _ _⟩
  obtain ⟨A2, cc2, rfl⟩ := hrow2.slice
  have HC : Hid ((catOf s).isSome = true) := by unfold Hid; rw [hc2]; rfl
  obtain ⟨W0, hW0⟩ : ∃ W0, W0 = w2.alloc (.cells #[.slice A2 p.length cc2, .int .i64 (n : Int)] 56) := ⟨_, rfl⟩
  have BW0 : Hid (Below w1.heap.size w1 W0) := by rw [hW0]; exact hb2.alloc hb2.size _
  have L0 := Lib.hid (L1.out.on BW0.out)
  have HW0 := Lib.hid hW0
  have BWW : Hid (Below w.heap.size w W0) := B1.out.trans (BW0.out.mono B1.out.size)
  clear hb2 hc2 hrow2 H34 hW0
  go_wp2_with fail
  rw [← HW0.out]
  go_loopg [8, 23] l.length (fun k v i wr => DropRel W0 l s k v i wr)
  case atStart => exact ⟨0, by simp, rfl, World.ownsRow_nil _ _ _ _, Below.refl _ _⟩
  case round =>
    obtain ⟨m, hmk, hi, hrow, hb⟩ := hrel
    subst hi
    have HR := Lib.hid hrow
    have HB := Lib.hid hb
    have hsz := hb.size
    have hml : (dropC (l.take m) s).length ≤ 8 := Nat.le_trans (List.length_filter_le _ _) (by rw [List.length_take]; omega)
    cases gk with
    | zero =>
      have hge : l.length ≤ m := by omega
      rw [List.take_of_length_le hge] at hrow hml
      obtain ⟨D, hD⟩ : ∃ D, D = dropC l s := ⟨_, rfl⟩
      rw [← hD] at hrow hml
      obtain ⟨A', c', rfl, hstrs⟩ := hrow.strs
      have S1 := Lib.hid hstrs
      have HDD := Lib.hid hD
      by_cases hin : s ∈ l
      · have HD : Hid (DropOut l s D 0) := .inr (.inr (.inr ⟨HO.out, HC.out, hin, hD, rfl⟩))
        have hlt := dropC_less hin
        rw [← hD] at hlt
        have hne : ((D.length : Int) == (l.length : Int)) = false := by simpa using (fun h => by omega)
        clear hrow hb hstrs hD hin
        go_wp2_with fail
        go_ret2
        exact ⟨BWW.out.trans (HB.out.mono BWW.out.size), A', c', D, 0, HD.out, rfl, S1.out⟩
      · have HD : Hid (DropOut l s [] 36) := .inr (.inr (.inl ⟨HO.out, HC.out, hin, rfl, rfl⟩))
        have heq : D = l := hD.trans (dropC_same hin)
        have hne : ((D.length : Int) == (l.length : Int)) = true := by rw [heq]; simp
        clear hrow hb hstrs hD hin heq
        go_wp2_with fail
        go_ret2
        exact ⟨BWW.out.trans (HB.out.mono BWW.out.size), none, 0, [], 36, HD.out, rfl, strs_nil _ _ _⟩
    | succ j =>
      have hm : m < l.length := by omega
      obtain ⟨x, hx⟩ : ∃ x, l[m]? = some x := ⟨_, List.getElem?_eq_getElem hm⟩
      obtain ⟨b, o, rfl, hlt, hcells⟩ := (L0.out.strs.below hb) (by omega)
      have cx := hcells m x hx
      have HM := Lib.hid hmk
      have hstep : dropC (l.take (m + 1)) s = dropC (l.take m) s ++ (if x = s then [] else [x]) := by
        rw [List.take_add_one, hx]
        unfold dropC
        rw [List.filter_append]
        by_cases e : x = s <;> simp [e]
      by_cases he : x = s
      · have hq := str_same he
        have HST : Hid (dropC (l.take (m + 1)) s = dropC (l.take m) s) := by
          unfold Hid
          rw [hstep, if_pos he, List.append_nil]
        clear hcells hx hmk hrow hb he hstep
        go_wp2_with fail
        go_roundg j
        case measure => omega
        case rel => exact ⟨m + 1, by have := HM.out; omega, by go_num, by rw [HST.out]; exact HR.out, HB.out⟩
      · have hq := str_differs he
        have HST : Hid (dropC (l.take (m + 1)) s = dropC (l.take m) s ++ [x]) := by rw [hstep, if_neg he]; exact rfl
        have hle : (dropC (l.take m) s).length + 1 ≤ 1000001 := by omega
        have hbase : W0.heap.size ≤ (wr.alloc (.cells #[.string (str x)] 9)).heap.size := by simp; omega
        clear hcells hx hmk hrow hb he hstep
        go_wp2_with (first
          | (at_builtin; refine wpList_append_one rfl _ _ rfl W0.heap.size _ (dropC (l.take m) s) rfl (World.ownsRow.alloc HR.out _) ⟨wr.heap.size, 0, none⟩ x rfl (cell_one_new _ _ _) hle hbase ?_))
        intro v' w3 hown hb3
        have R3 : Hid (StrRow w3 W0.heap.size v' (dropC (l.take (m + 1)) s)) := by rw [HST.out]; exact hown
        have B3 : Hid (Below W0.heap.size W0 w3) := (HB.out.alloc HB.out.size _).trans hb3
        clear hown hb3
        go_wp2_with fail
        go_roundg j
        case measure => omega
        case rel => exact ⟨m + 1, by have := HM.out; omega, by go_num, R3.out, B3.out⟩

/-- What Within has found after m rounds. -/
def WPre (a b : List (List UInt8)) (m : Nat) : Prop := OwnL a ∧ OwnL b ∧ ∀ x ∈ a.take m, x ∈ b
instance (a b : List (List UInt8)) (m : Nat) : Decidable (WPre a b m) := by unfold WPre; infer_instance
def WiRel (w : World) (a b : List (List UInt8)) (k : Nat) (y i : Value) (wr : World) : Prop :=
  ∃ m, m + k = a.length ∧ i = .int .i64 (m : Int) ∧ y = .bool (decide (WPre a b m)) ∧ w = wr

theorem within_step {a b : List (List UInt8)} {m : Nat} {x : List UInt8} (hx : a[m]? = some x) : WPre a b (m + 1) ↔ WPre a b m ∧ x ∈ b := by
  constructor
  · rintro ⟨h1, h2, h3⟩
    refine ⟨⟨h1, h2, fun y hy => h3 y ?_⟩, h3 x ?_⟩
    · rw [List.take_add_one, hx]
      exact List.mem_append_left _ hy
    · rw [List.take_add_one, hx]
      simp
  · rintro ⟨⟨h1, h2, h3⟩, h4⟩
    exact ⟨h1, h2, take_all hx h3 h4⟩

set_option maxRecDepth 100000 in
theorem refWithin_any {w : World} {A B : Option Addr} {c d : Nat} {a b : List (List UInt8)} (ha : RL w A c a) (hb : RL w B d b) :
    Calls Tryz.prog 21 #[.slice A a.length c, .slice B b.length d] w (RetB w (.bool (decide (WithinL a b)))) := by
  have HA := Lib.hid ha
  have HB := Lib.hid hb
  have H17 := Lib.hid (refRightO_any (c := c) ha.strs ha.txt ha.len)
  have hna := ha.len
  have hnb := hb.len
  clear ha hb
  by_cases hoa : OwnL a
  · rw [decide_eq_true hoa] at H17
    go_enter Tryz.func21, Tryz.ntmps21
    go_wp2_with fail
    refine H17.out.mono ?_
    rintro e w1 ⟨rfl, hb1⟩
    have B1 := Lib.hid hb1
    have A1 := Lib.hid (HA.out.on hb1)
    have C1 := Lib.hid (HB.out.on hb1)
    have H17b := Lib.hid (refRightO_any (c := d) C1.out.strs C1.out.txt C1.out.len)
    have HY : Hid (decide (OwnL b) = decide (WPre a b 0)) := decide_eq_decide.2 ⟨fun h => ⟨hoa, h, by simp⟩, fun h => h.2.1⟩
    rw [HY.out] at H17b
    clear hb1 H17 hoa
    go_wp2_with fail
    refine H17b.out.mono ?_
    rintro e w2 ⟨rfl, hb2⟩
    have B2 : Hid (Below w.heap.size w w2) := B1.out.trans (hb2.mono B1.out.size)
    have A2 := Lib.hid (A1.out.on hb2)
    have C2 := Lib.hid (C1.out.on hb2)
    clear hb2 H17b
    go_wp2_with fail
    go_loopg [5, 16] a.length (fun k y i wr => WiRel w2 a b k y i wr)
    case atStart => exact ⟨0, by simp, rfl, rfl, rfl⟩
    case round =>
      obtain ⟨m, hmk, hi, hy, hw⟩ := hrel
      subst hi hw
      obtain ⟨z, hz⟩ : ∃ z, z = decide (WPre a b m) := ⟨_, rfl⟩
      rw [← hz] at hy
      subst hy
      cases gk with
      | zero =>
        have hge : a.length ≤ m := by omega
        have HD : Hid (z = decide (WithinL a b)) := by
          unfold Hid
          rw [hz]
          refine decide_eq_decide.2 ?_
          unfold WPre WithinL
          rw [List.take_of_length_le hge]
        clear hz
        go_wp2_with fail
        go_ret
        exact ⟨by rw [HD.out] <;> rfl, B2.out⟩
      | succ j =>
        have hm : m < a.length := by omega
        obtain ⟨x, hx⟩ : ∃ x, a[m]? = some x := ⟨_, List.getElem?_eq_getElem hm⟩
        obtain ⟨bk, o, rfl, hlt, hcells⟩ := A2.out.strs (by omega)
        have cx := hcells m x hx
        have HM := Lib.hid hmk
        have HST : Hid (decide (WPre a b (m + 1)) = (z && decide (x ∈ b))) := by
          unfold Hid
          rw [hz, ← Bool.decide_and]
          exact decide_eq_decide.2 (within_step hx)
        have H19 := Lib.hid (refHas_any (c := d) (s := x) C2.out.strs hnb)
        clear hcells hx hmk hz
        cases z with
        | false =>
          go_wp2_with fail
          go_roundg j
          case measure => omega
          case rel => exact ⟨m + 1, by have := HM.out; omega, by go_num, by rw [HST.out]; simp, rfl⟩
        | true =>
          go_wp2_with fail
          refine H19.out.mono ?_
          rintro e w3 ⟨rfl, rfl⟩
          go_wp2_with fail
          go_roundg j
          case measure => omega
          case rel => exact ⟨m + 1, by have := HM.out; omega, by go_num, by rw [HST.out]; simp, rfl⟩
  · rw [decide_eq_false hoa] at H17
    have HD : Hid (∀ m, decide (WPre a b m) = false) := fun m => decide_eq_false fun h => hoa h.1
    have HD2 : Hid (decide (WithinL a b) = false) := decide_eq_false fun h => hoa h.1
    go_enter Tryz.func21, Tryz.ntmps21
    go_wp2_with fail
    refine H17.out.mono ?_
    rintro e w2 ⟨rfl, hb1⟩
    have B2 := Lib.hid hb1
    have A2 := Lib.hid (HA.out.on hb1)
    clear hb1 H17 hoa
    go_wp2_with fail
    go_loopg [5, 16] a.length (fun k y i wr => WiRel w2 a b k y i wr)
    case atStart => exact ⟨0, by simp, rfl, by rw [HD.out], rfl⟩
    case round =>
      obtain ⟨m, hmk, hi, hy, hw⟩ := hrel
      rw [HD.out] at hy
      subst hi hw hy
      cases gk with
      | zero =>
        go_wp2_with fail
        go_ret
        exact ⟨by rw [HD2.out] <;> rfl, B2.out⟩
      | succ j =>
        have hm : m < a.length := by omega
        obtain ⟨x, hx⟩ : ∃ x, a[m]? = some x := ⟨_, List.getElem?_eq_getElem hm⟩
        obtain ⟨bk, o, rfl, hlt, hcells⟩ := A2.out.strs (by omega)
        have cx := hcells m x hx
        have HM := Lib.hid hmk
        clear hcells hx hmk
        go_wp2_with fail
        go_roundg j
        case measure => omega
        case rel => exact ⟨m + 1, by have := HM.out; omega, by go_num, by rw [HD.out], rfl⟩
end Go.Proofs.YtglidfmgechneaaGreatDoor
