/- label.Same, label.Flows. -/
import Derived.Test.YtpokdihnimlgkaaGreatDoorEq
import Derived.Test.YtpokdihnimlgkaaGreatDoorCc
import Derived.Test.YtpokdihnimlgkaaGreatDoorLb
namespace Go.Proofs.YtpokdihnimlgkaaGreatDoor
open Go.RowKit

/-- A label that may be asked, as it lies. -/
structure Lab (w : World) (A : Option Addr) (c : Nat) (l : List Ent) : Prop where
  ents : Ents w w.heap.size A l
  nil : A = none → c = 0
  txt : ∀ e ∈ l, e.1.length ≤ 140737488351232
  len : l.length ≤ maxLen
theorem Lab.on {w w' : World} {A : Option Addr} {c : Nat} {l : List Ent} (h : Lab w A c l) (hb : Below w.heap.size w w') : Lab w' A c l :=
  ⟨(h.ents.below hb).more hb.size, h.nil, h.txt, h.len⟩

theorem same_any {w : World} {A A' : Option Addr} {c c' : Nat} {l l' : List Ent} (h : Lab w A c l) (h' : Lab w A' c' l') (hn : l.length ≤ 1000000) :
    Calls Tryz.prog 22 #[.slice A l.length c, .slice A' l'.length c'] w (RetB w (.bool (decide (l = l')))) := by
  have H := Lib.hid (equal_any (c := c) (c' := c') h.ents h'.ents hn)
  clear h h'
  go_enter Tryz.func22, Tryz.ntmps22
  go_wp2_with fail
  refine H.out.mono ?_
  rintro e w1 ⟨rfl, hb1⟩
  have B1 := Lib.hid hb1
  clear hb1
  go_wp2_with fail
  go_ret
  exact ⟨rfl, B1.out⟩

def FlRel (w : World) (a b L : List Ent) (k : Nat) (i : Value) (wr : World) : Prop :=
  ∃ m, m + k = L.length ∧ i = .int .i64 (m : Int) ∧ (∀ e ∈ L.take m, lev a e.1 ≤ lev b e.1) ∧ Below w.heap.size w wr

set_option maxRecDepth 100000 in
set_option maxHeartbeats 1000000 in
theorem flows_any {w : World} {A B : Option Addr} {c d : Nat} {a b : List Ent} (he : Env w) (ha : Lab w A c a) (hb : Lab w B d b) :
    Calls Tryz.prog 26 #[.slice A a.length c, .slice B b.length d] w (RetB w (.bool (decide (FlowsL a b)))) := by
  have HE := Lib.hid he
  have HA := Lib.hid ha
  have HB := Lib.hid hb
  have H14a := Lib.hid (labelRight_any (c := c) he ha.ents ha.txt ha.len)
  clear he ha hb
  by_cases hra : RightL a
  · rw [decide_eq_true hra] at H14a
    have RA := Lib.hid hra
    clear hra
    go_enter Tryz.func26, Tryz.ntmps26
    go_wp2_with fail
    refine H14a.out.mono ?_
    rintro e w1 ⟨rfl, hb1⟩
    have B1 := Lib.hid hb1
    have E1 := Lib.hid (HE.out.on hb1)
    have A1 := Lib.hid (HA.out.on hb1)
    have C1 := Lib.hid (HB.out.on hb1)
    have H14b := Lib.hid (labelRight_any (c := d) E1.out C1.out.ents C1.out.txt C1.out.len)
    clear hb1 H14a
    by_cases hrb : RightL b
    · rw [decide_eq_true hrb] at H14b
      have RB := Lib.hid hrb
      clear hrb
      go_wp2_with fail
      refine H14b.out.mono ?_
      rintro e w2 ⟨rfl, hb2⟩
      have B2 := Lib.hid (B1.out.trans (hb2.mono B1.out.size))
      have E2 := Lib.hid (E1.out.on hb2)
      have hn8 : a.length + b.length ≤ 16 := by have h1 := RA.out.1; have h2 := RB.out.1; omega
      have hal : Below w2.heap.size w2 (w2.alloc (.cells #[.slice A a.length c, .slice B b.length d] 23)) := (Below.refl _ _).alloc (Nat.le_refl _) _
      have A2 := Lib.hid (A1.out.on hb2)
      have C2 := Lib.hid (C1.out.on hb2)
      have H36 := Lib.hid (concat_any (w := w2.alloc (.cells #[.slice A a.length c, .slice B b.length d] 23)) (b := w2.heap.size) (o := 0) (by simp) (by simp) (by simp) (A2.out.on hal).ents (C2.out.on hal).ents A2.out.nil C2.out.nil (by omega))
      have HAL := Lib.hid hal
      clear hb2 H14b hal
      go_wp2_with fail
      refine H36.out.mono ?_
      rintro e w3 ⟨v, rfl, hrow, hb3⟩
      obtain ⟨L, hL⟩ : ∃ L, L = a ++ b := ⟨_, rfl⟩
      rw [← hL] at hrow
      have HLL := Lib.hid hL
      obtain ⟨A', c', rfl, _, hents⟩ := hrow.ents
      have hll : L.length ≤ 16 := by rw [hL, List.length_append]; exact hn8
      have B3 : Hid (Below w2.heap.size w2 w3) := HAL.out.trans (hb3.mono HAL.out.size)
      have HN := Lib.hid hents
      have E3 := Lib.hid (E2.out.on B3.out)
      have A3 := Lib.hid (A2.out.on B3.out)
      have C3 := Lib.hid (C2.out.on B3.out)
      clear hb3 hrow hents H36 hL
      go_wp2_with fail
      go_loopg [20] L.length (fun k i wr => FlRel w3 a b L k i wr)
      case atStart => exact ⟨0, by simp, rfl, by simp, Below.refl _ _⟩
      case round =>
        obtain ⟨m, hmk, hi, hno, hb⟩ := hrel
        subst hi
        have HW := Lib.hid hb
        have HNO := Lib.hid hno
        have hsz := hb.size
        cases gk with
        | zero =>
          have hge : L.length ≤ m := by omega
          have HD : Hid (decide (FlowsL a b) = true) := decide_eq_true ⟨RA.out, RB.out, by
            have := HNO.out
            rwa [List.take_of_length_le hge, HLL.out] at this⟩
          clear hno hb
          go_wp2_with fail
          go_ret
          exact ⟨by rw [HD.out]; rfl, B2.out.trans ((B3.out.trans (HW.out.mono B3.out.size)).mono B2.out.size)⟩
        | succ j =>
          have hm : m < L.length := by omega
          obtain ⟨⟨t, n⟩, hx⟩ : ∃ x, L[m]? = some x := ⟨_, List.getElem?_eq_getElem hm⟩
          obtain ⟨g, o, rfl, hlt, hcells⟩ := (HN.out.below hb) (by omega)
          obtain ⟨c1, c2⟩ := hcells m t n hx
          have HM := Lib.hid hmk
          have HX := Lib.hid hx
          obtain ⟨W0, hW0⟩ : ∃ W0, W0 = wr.alloc (.cells #[.string (str t), .int .i64 n] 33) := ⟨_, rfl⟩
          have hB0 : Below wr.heap.size wr W0 := by rw [hW0]; exact (Below.refl _ _).alloc (Nat.le_refl _) _
          have k0 : W0.cell? ⟨wr.heap.size, 0, none⟩ = some (.string (str t)) := by rw [hW0]; simp
          have hg0 : wr.heap.size < W0.heap.size := by rw [hW0]; simp
          have hB03 : Below w3.heap.size w3 W0 := HW.out.trans (hB0.mono hsz)
          have A4 := A3.out.on hB03
          have C4 := C3.out.on hB03
          obtain ⟨ya, hya⟩ : ∃ y, y = lev a t := ⟨_, rfl⟩
          obtain ⟨yb, hyb⟩ : ∃ y, y = lev b t := ⟨_, rfl⟩
          have H15a : Hid (∀ W, Below W0.heap.size W0 W → Calls Tryz.prog 15 #[.slice A a.length c, .string (str t)] W fun e w' => e = .returned (.int .i64 ya) ∧ Below W0.heap.size W0 w') := fun W h => by
            rw [hya]
            exact (level_any (A4.on h).ents (by omega)).mono fun e w' h2 => ⟨h2.1, h.trans (h2.2.mono h.size)⟩
          have H15b : Hid (∀ W, Below W0.heap.size W0 W → Calls Tryz.prog 15 #[.slice B b.length d, .string (str t)] W fun e w' => e = .returned (.int .i64 yb) ∧ Below W0.heap.size W0 w') := fun W h => by
            rw [hyb]
            exact (level_any (C4.on h).ents (by omega)).mono fun e w' h2 => ⟨h2.1, h.trans (h2.2.mono h.size)⟩
          have HYA := Lib.hid hya
          have HYB := Lib.hid hyb
          have HB03 := Lib.hid hB03
          have HW0 := Lib.hid hW0
          clear hcells hx hmk hno hb hB0 hB03 A4 C4 hya hyb hW0
          go_wp2_with fail
          rw [← HW0.out]
          go_region_held3 (fun W => W.cell? ⟨wr.heap.size, 0, none⟩ = some (.string (str t)))
            (first
              | go_keep
              | exact (hbB.cell (p := ⟨wr.heap.size, 0, none⟩) hg0).trans k0
              | exact (hbA.cell (p := ⟨wr.heap.size, 0, none⟩) hg0).trans k0)
            (first
              | (go_at_call 15; refine (H15b.out _ hbA).mono ?_; rintro e W2 ⟨rfl, hbB⟩)
              | (go_at_call 15; refine (H15a.out _ (Below.refl _ _).drew).mono ?_; rintro e W1 ⟨rfl, hbA⟩))
          have B4 : Hid (Below w3.heap.size w3 W2) := HB03.out.trans (hbB.mono HB03.out.size)
          clear hbA hbB k0 c1 c2 H15a H15b
          by_cases hgt : ya > yb
          · have HD : Hid (decide (FlowsL a b) = false) := decide_eq_false fun h => by
              have h1 := h.2.2 (t, n) (by rw [← HLL.out]; exact List.mem_of_getElem? HX.out)
              rw [← HYA.out, ← HYB.out] at h1
              omega
            go_wp2_with fail
            go_ret
            exact ⟨by rw [HD.out]; rfl, B2.out.trans ((B3.out.trans (B4.out.mono B3.out.size)).mono B2.out.size)⟩
          · have HN2 : Hid (∀ e ∈ L.take (m + 1), lev a e.1 ≤ lev b e.1) := take_no (P := fun e => lev a e.1 ≤ lev b e.1) HX.out HNO.out (by
              show lev a t ≤ lev b t
              rw [← HYA.out, ← HYB.out]
              omega)
            go_wp2_with fail
            go_roundg j
            case measure => omega
            case rel => exact ⟨m + 1, by have := HM.out; omega, by go_num, HN2.out, B4.out⟩
    · rw [decide_eq_false hrb] at H14b
      have HD : Hid (decide (FlowsL a b) = false) := decide_eq_false fun h => hrb h.2.1
      clear hrb
      go_wp2_with fail
      refine H14b.out.mono ?_
      rintro e w2 ⟨rfl, hb2⟩
      have B2 := Lib.hid (B1.out.trans (hb2.mono B1.out.size))
      clear hb2 H14b
      go_wp2_with fail
      go_ret
      exact ⟨by rw [HD.out]; rfl, B2.out⟩
  · rw [decide_eq_false hra] at H14a
    have HD : Hid (decide (FlowsL a b) = false) := decide_eq_false fun h => hra h.1
    clear hra
    go_enter Tryz.func26, Tryz.ntmps26
    go_wp2_with fail
    refine H14a.out.mono ?_
    rintro e w1 ⟨rfl, hb1⟩
    have B1 := Lib.hid hb1
    clear hb1 H14a
    go_wp2_with fail
    go_ret
    exact ⟨by rw [HD.out]; rfl, B1.out⟩
end Go.Proofs.YtpokdihnimlgkaaGreatDoor
