/- The reference's Flows. -/
import Derived.Test.YtpokdihnimlgkaaGreatDoorRf
import Derived.Test.YtpokdihnimlgkaaGreatDoorFl
namespace Go.Proofs.YtpokdihnimlgkaaGreatDoor
open Go.RowKit

theorem take_snoc' {l : List Ent} {m : Nat} {e : Ent} (h : l[m]? = some e) : l.take (m + 1) = l.take m ++ [e] := by
  rw [List.take_add_one, h]
  rfl
/-- What the reference's first loop, then the second one, asks. -/
def Ask1 (a b : List Ent) (m : Nat) : Prop := (RightL a ∧ RightL b) ∧ ∀ e ∈ a.take m, e.2 ≤ lev b e.1
def Ask2 (a b : List Ent) (m : Nat) : Prop := ((RightL a ∧ RightL b) ∧ ∀ e ∈ a, e.2 ≤ lev b e.1) ∧ ∀ e ∈ b.take m, lev a e.1 ≤ e.2
instance (a b : List Ent) (m : Nat) : Decidable (Ask1 a b m) := by unfold Ask1; infer_instance
instance (a b : List Ent) (m : Nat) : Decidable (Ask2 a b m) := by unfold Ask2; infer_instance
theorem ask_flows {a b : List Ent} {m : Nat} (hm : b.length ≤ m) : Ask2 a b m ↔ FlowsL a b := by
  unfold Ask2
  rw [List.take_of_length_le hm]
  constructor
  · rintro ⟨⟨⟨h1, h2⟩, h3⟩, h4⟩
    refine ⟨h1, h2, fun e he => ?_⟩
    rcases List.mem_append.1 he with h | h
    · rw [lev_nodup (rises_nodup h1.2.2) h]; exact h3 e h
    · rw [lev_nodup (rises_nodup h2.2.2) h]; exact h4 e h
  · rintro ⟨h1, h2, h3⟩
    refine ⟨⟨⟨h1, h2⟩, fun e he => ?_⟩, fun e he => ?_⟩
    · have := h3 e (List.mem_append_left _ he)
      rwa [lev_nodup (rises_nodup h1.2.2) he] at this
    · have := h3 e (List.mem_append_right _ he)
      rwa [lev_nodup (rises_nodup h2.2.2) he] at this
theorem ask1_step {a b : List Ent} {m : Nat} {e : Ent} (h : a[m]? = some e) : Ask1 a b (m + 1) ↔ Ask1 a b m ∧ e.2 ≤ lev b e.1 := by
  unfold Ask1
  rw [take_snoc' h]
  constructor
  · rintro ⟨h1, h2⟩
    exact ⟨⟨h1, fun x hx => h2 x (List.mem_append_left _ hx)⟩, h2 e (by simp)⟩
  · rintro ⟨⟨h1, h2⟩, h3⟩
    refine ⟨h1, fun x hx => ?_⟩
    rcases List.mem_append.1 hx with h | h
    · exact h2 x h
    · rw [List.mem_singleton.1 h]; exact h3
theorem ask2_step {a b : List Ent} {m : Nat} {e : Ent} (h : b[m]? = some e) : Ask2 a b (m + 1) ↔ Ask2 a b m ∧ lev a e.1 ≤ e.2 := by
  unfold Ask2
  rw [take_snoc' h]
  constructor
  · rintro ⟨h1, h2⟩
    exact ⟨⟨h1, fun x hx => h2 x (List.mem_append_left _ hx)⟩, h2 e (by simp)⟩
  · rintro ⟨⟨h1, h2⟩, h3⟩
    refine ⟨h1, fun x hx => ?_⟩
    rcases List.mem_append.1 hx with h | h
    · exact h2 x h
    · rw [List.mem_singleton.1 h]; exact h3
theorem ask_mid {a b : List Ent} {m : Nat} (hm : a.length ≤ m) : Ask1 a b m ↔ Ask2 a b 0 := by
  unfold Ask1 Ask2
  rw [List.take_of_length_le hm]
  simp

def Rl1 (w : World) (a b : List Ent) (k : Nat) (v i : Value) (wr : World) : Prop :=
  ∃ m, m + k = a.length ∧ i = .int .i64 (m : Int) ∧ v = .bool (decide (Ask1 a b m)) ∧ Below w.heap.size w wr
def Rl2 (w : World) (a b : List Ent) (k : Nat) (v i : Value) (wr : World) : Prop :=
  ∃ m, m + k = b.length ∧ i = .int .i64 (m : Int) ∧ v = .bool (decide (Ask2 a b m)) ∧ Below w.heap.size w wr

set_option maxRecDepth 100000 in
set_option maxHeartbeats 2000000 in
/-- The two loops. -/
theorem refFlows_any {w : World} {A B : Option Addr} {c d : Nat} {a b : List Ent} (ha : Ents w w.heap.size A a) (hb : Ents w w.heap.size B b) (hxa : ∀ e ∈ a, e.1.length ≤ 100000) (hxb : ∀ e ∈ b, e.1.length ≤ 100000) (hna : a.length ≤ 100000) (hnb : b.length ≤ 100000) :
    Calls Tryz.prog 27 #[.slice A a.length c, .slice B b.length d] w (RetB w (.bool (decide (FlowsL a b)))) := by
  have HA := Lib.hid ha
  have HB := Lib.hid hb
  have H12a := Lib.hid (refRight_any (c := c) ha hxa (by unfold maxLen; omega))
  have hbr : ∀ W, Below w.heap.size w W → Calls Tryz.prog 12 #[.slice B b.length d] W (RetB W (.bool (decide (RightL b)))) := fun W h => refRight_any ((hb.below h).more h.size) hxb (by unfold maxLen; omega)
  have H12b := Lib.hid hbr
  clear ha hb hbr
  cases hra : decide (RightL a) with
  | false =>
    have HQ : Hid (decide (Ask1 a b 0) = false) := decide_eq_false fun h => (of_decide_eq_false hra) h.1.1
    rw [hra] at H12a
    clear hra
    go_enter Tryz.func27, Tryz.ntmps27
    go_wp2_with fail
    refine H12a.out.mono ?_
    rintro e w1 ⟨rfl, hb1⟩
    have B1 := Lib.hid hb1
    clear hb1 H12a H12b
    go_wp2_with fail
    go_loopg [5, 18] a.length (fun k v i wr => Rl1 w a b k v i wr)
    case atStart => exact ⟨0, by simp, rfl, by rw [HQ.out], B1.out⟩
    case round =>
      obtain ⟨m, hmk, hi, hv, hb⟩ := hrel
      subst hi hv
      have HW := Lib.hid hb
      cases gk with
      | zero =>
        have hge : a.length ≤ m := by omega
        have HQ : Hid (decide (Ask1 a b m) = decide (Ask2 a b 0)) := decide_eq_decide.2 (ask_mid hge)
        rw [HQ.out]
        obtain ⟨q, hq⟩ : ∃ q, q = decide (Ask2 a b 0) := ⟨_, rfl⟩
        rw [← hq]
        have HQQ := Lib.hid hq
        clear hb hq
        go_wp2_with fail
        have hd : decide (m < a.length) = false := decide_eq_false (by omega)
        simp only [hd]
        go_loopg [5, 35] b.length (fun k v i wr => Rl2 w a b k v i wr)
        case atStart => exact ⟨0, by simp, rfl, by rw [HQQ.out], HW.out⟩
        case round =>
          obtain ⟨m, hmk, hi, hv, hb⟩ := hrel
          subst hi hv
          have HW := Lib.hid hb
          cases gk with
          | zero =>
            have hge : b.length ≤ m := by omega
            have HQ : Hid (decide (Ask2 a b m) = decide (FlowsL a b)) := decide_eq_decide.2 (ask_flows hge)
            rw [HQ.out]
            clear hb
            go_wp2_with fail
            go_ret
            exact ⟨rfl, HW.out⟩
          | succ j =>
            have hm : m < b.length := by omega
            obtain ⟨⟨t, n⟩, hx⟩ : ∃ x, b[m]? = some x := ⟨_, List.getElem?_eq_getElem hm⟩
            obtain ⟨g, o, hAe, hlt, hcells⟩ := (HB.out.below hb) (by omega)
            subst hAe
            obtain ⟨c1, c2⟩ := hcells m t n hx
            have HM := Lib.hid hmk
            have HX := Lib.hid hx
            have HST := Lib.hid (ask2_step (a := a) (b := b) hx)
            have hsz := hb.size
            obtain ⟨W0, hW0⟩ : ∃ W0, W0 = wr.alloc (.cells #[.string (str t), .int .i64 n] 33) := ⟨_, rfl⟩
            have hB0 : Below wr.heap.size wr W0 := by rw [hW0]; exact (Below.refl _ _).alloc (Nat.le_refl _) _
            have k0 : W0.cell? ⟨wr.heap.size, 0, none⟩ = some (.string (str t)) := by rw [hW0]; simp
            have k1 : W0.cell? ⟨wr.heap.size, 1, none⟩ = some (.int .i64 n) := by rw [hW0]; simp
            have hg0 : wr.heap.size < W0.heap.size := by rw [hW0]; simp
            have hB0w : Below w.heap.size w W0 := hb.trans (hB0.mono hsz)
            have HB0w := Lib.hid hB0w
            have HW0 := Lib.hid hW0
            cases hq : decide (Ask2 a b m) with
            | false =>
              have HQ2 : Hid (decide (Ask2 a b (m + 1)) = false) := decide_eq_false fun h => (of_decide_eq_false hq) (HST.out.1 h).1
              clear hcells hx hmk hb hB0 hB0w hW0 hq
              go_wp2_with fail
              rw [← HW0.out]
              go_quiet (fail)
              go_wp2_with fail
              go_roundg j
              case measure => omega
              case rel => exact ⟨m + 1, by have := HM.out; omega, by go_num, by rw [HQ2.out], below_drewN HB0w.out _⟩
            | true =>
              have HQ1 := Lib.hid (of_decide_eq_true hq)
              obtain ⟨y, hy⟩ : ∃ y, y = lev a t := ⟨_, rfl⟩
              have H16 : Hid (∀ W, Below W0.heap.size W0 W → Calls Tryz.prog 16 #[.slice A a.length c, .string (str t)] W fun e w' => e = .returned (.int .i64 y) ∧ Below W0.heap.size W0 w') := fun W h => by
                rw [hy]
                have hbw := hB0w.trans (h.mono hB0w.size)
                exact (refLevel_any ((HA.out.below hbw).more hbw.size) (by omega)).mono fun e w' h2 => ⟨h2.1, h.trans (h2.2.mono h.size)⟩
              have HY := Lib.hid hy
              clear hcells hx hmk hb hB0 hB0w hW0 hq hy
              go_wp2_with fail
              rw [← HW0.out]
              go_region_held3 (fun W => W.cell? ⟨wr.heap.size, 0, none⟩ = some (.string (str t)) ∧ W.cell? ⟨wr.heap.size, 1, none⟩ = some (.int .i64 n))
                (first
                  | go_keep
                  | exact ⟨(hbA.cell (p := ⟨wr.heap.size, 0, none⟩) hg0).trans k0, (hbA.cell (p := ⟨wr.heap.size, 1, none⟩) hg0).trans k1⟩)
                (first
                  | (go_at_call 16; refine (H16.out _ (Below.refl _ _).drew).mono ?_; rintro e W1 ⟨rfl, hbA⟩))
              all_goals (
                have B4 : Hid (Below w.heap.size w W1) := HB0w.out.trans (hbA.mono HB0w.out.size)
                have HQ2 : Hid (decide (Ask2 a b (m + 1)) = decide (y ≤ n)) := by
                  unfold Hid
                  rw [decide_eq_decide, HST.out]
                  exact ⟨fun h => by have := h.2; rw [← HY.out] at this; exact this, fun h => ⟨HQ1.out, by rw [← HY.out]; exact h⟩⟩
                clear hbA k0 k1 c1 c2 H16
                go_wp2_with fail
                go_roundg j
                case measure => omega
                case rel => exact ⟨m + 1, by have := HM.out; omega, by go_num, by rw [HQ2.out], B4.out⟩)
      | succ j =>
        have hm : m < a.length := by omega
        obtain ⟨⟨t, n⟩, hx⟩ : ∃ x, a[m]? = some x := ⟨_, List.getElem?_eq_getElem hm⟩
        obtain ⟨g, o, hAe, hlt, hcells⟩ := (HA.out.below hb) (by omega)
        subst hAe
        obtain ⟨c1, c2⟩ := hcells m t n hx
        have HM := Lib.hid hmk
        have HX := Lib.hid hx
        have HST := Lib.hid (ask1_step (a := a) (b := b) hx)
        have hsz := hb.size
        obtain ⟨W0, hW0⟩ : ∃ W0, W0 = wr.alloc (.cells #[.string (str t), .int .i64 n] 33) := ⟨_, rfl⟩
        have hB0 : Below wr.heap.size wr W0 := by rw [hW0]; exact (Below.refl _ _).alloc (Nat.le_refl _) _
        have k0 : W0.cell? ⟨wr.heap.size, 0, none⟩ = some (.string (str t)) := by rw [hW0]; simp
        have k1 : W0.cell? ⟨wr.heap.size, 1, none⟩ = some (.int .i64 n) := by rw [hW0]; simp
        have hg0 : wr.heap.size < W0.heap.size := by rw [hW0]; simp
        have hB0w : Below w.heap.size w W0 := hb.trans (hB0.mono hsz)
        have HB0w := Lib.hid hB0w
        have HW0 := Lib.hid hW0
        cases hq : decide (Ask1 a b m) with
        | false =>
          have HQ2 : Hid (decide (Ask1 a b (m + 1)) = false) := decide_eq_false fun h => (of_decide_eq_false hq) (HST.out.1 h).1
          clear hcells hx hmk hb hB0 hB0w hW0 hq
          go_wp2_with fail
          rw [← HW0.out]
          go_quiet (fail)
          go_wp2_with fail
          go_roundg j
          case measure => omega
          case rel => exact ⟨m + 1, by have := HM.out; omega, by go_num, by rw [HQ2.out], below_drewN HB0w.out _⟩
        | true =>
          have HQ1 := Lib.hid (of_decide_eq_true hq)
          obtain ⟨y, hy⟩ : ∃ y, y = lev b t := ⟨_, rfl⟩
          have H16 : Hid (∀ W, Below W0.heap.size W0 W → Calls Tryz.prog 16 #[.slice B b.length d, .string (str t)] W fun e w' => e = .returned (.int .i64 y) ∧ Below W0.heap.size W0 w') := fun W h => by
            rw [hy]
            have hbw := hB0w.trans (h.mono hB0w.size)
            exact (refLevel_any ((HB.out.below hbw).more hbw.size) (by omega)).mono fun e w' h2 => ⟨h2.1, h.trans (h2.2.mono h.size)⟩
          have HY := Lib.hid hy
          clear hcells hx hmk hb hB0 hB0w hW0 hq hy
          go_wp2_with fail
          rw [← HW0.out]
          go_region_held3 (fun W => W.cell? ⟨wr.heap.size, 0, none⟩ = some (.string (str t)) ∧ W.cell? ⟨wr.heap.size, 1, none⟩ = some (.int .i64 n))
            (first
              | go_keep
              | exact ⟨(hbA.cell (p := ⟨wr.heap.size, 0, none⟩) hg0).trans k0, (hbA.cell (p := ⟨wr.heap.size, 1, none⟩) hg0).trans k1⟩)
            (first
              | (go_at_call 16; refine (H16.out _ (Below.refl _ _).drew).mono ?_; rintro e W1 ⟨rfl, hbA⟩))
          all_goals (
            have B4 : Hid (Below w.heap.size w W1) := HB0w.out.trans (hbA.mono HB0w.out.size)
            have HQ2 : Hid (decide (Ask1 a b (m + 1)) = decide (n ≤ y)) := by
              unfold Hid
              rw [decide_eq_decide, HST.out]
              exact ⟨fun h => by have := h.2; rw [← HY.out] at this; exact this, fun h => ⟨HQ1.out, by rw [← HY.out]; exact h⟩⟩
            clear hbA k0 k1 c1 c2 H16
            go_wp2_with fail
            go_roundg j
            case measure => omega
            case rel => exact ⟨m + 1, by have := HM.out; omega, by go_num, by rw [HQ2.out], B4.out⟩)
  | true =>
    rw [hra] at H12a
    go_enter Tryz.func27, Tryz.ntmps27
    go_wp2_with fail
    refine H12a.out.mono ?_
    rintro e w1 ⟨rfl, hb1⟩
    have B1 := Lib.hid hb1
    have H12c := Lib.hid (H12b.out w1 hb1)
    clear hb1 H12a H12b
    go_wp2_with fail
    refine H12c.out.mono ?_
    rintro e w2 ⟨rfl, hb2⟩
    have B2 := Lib.hid (B1.out.trans (hb2.mono B1.out.size))
    have HQ : Hid (decide (Ask1 a b 0) = decide (RightL b)) := by
      unfold Hid
      rw [decide_eq_decide]
      unfold Ask1
      simp [of_decide_eq_true hra]
    clear hb2 H12c hra
    go_wp2_with fail
    go_loopg [5, 18] a.length (fun k v i wr => Rl1 w a b k v i wr)
    case atStart => exact ⟨0, by simp, rfl, by rw [HQ.out], B2.out⟩
    case round =>
      obtain ⟨m, hmk, hi, hv, hb⟩ := hrel
      subst hi hv
      have HW := Lib.hid hb
      cases gk with
      | zero =>
        have hge : a.length ≤ m := by omega
        have HQ : Hid (decide (Ask1 a b m) = decide (Ask2 a b 0)) := decide_eq_decide.2 (ask_mid hge)
        rw [HQ.out]
        obtain ⟨q, hq⟩ : ∃ q, q = decide (Ask2 a b 0) := ⟨_, rfl⟩
        rw [← hq]
        have HQQ := Lib.hid hq
        clear hb hq
        go_wp2_with fail
        have hd : decide (m < a.length) = false := decide_eq_false (by omega)
        simp only [hd]
        go_loopg [5, 35] b.length (fun k v i wr => Rl2 w a b k v i wr)
        case atStart => exact ⟨0, by simp, rfl, by rw [HQQ.out], HW.out⟩
        case round =>
          obtain ⟨m, hmk, hi, hv, hb⟩ := hrel
          subst hi hv
          have HW := Lib.hid hb
          cases gk with
          | zero =>
            have hge : b.length ≤ m := by omega
            have HQ : Hid (decide (Ask2 a b m) = decide (FlowsL a b)) := decide_eq_decide.2 (ask_flows hge)
            rw [HQ.out]
            clear hb
            go_wp2_with fail
            go_ret
            exact ⟨rfl, HW.out⟩
          | succ j =>
            have hm : m < b.length := by omega
            obtain ⟨⟨t, n⟩, hx⟩ : ∃ x, b[m]? = some x := ⟨_, List.getElem?_eq_getElem hm⟩
            obtain ⟨g, o, hAe, hlt, hcells⟩ := (HB.out.below hb) (by omega)
            subst hAe
            obtain ⟨c1, c2⟩ := hcells m t n hx
            have HM := Lib.hid hmk
            have HX := Lib.hid hx
            have HST := Lib.hid (ask2_step (a := a) (b := b) hx)
            have hsz := hb.size
            obtain ⟨W0, hW0⟩ : ∃ W0, W0 = wr.alloc (.cells #[.string (str t), .int .i64 n] 33) := ⟨_, rfl⟩
            have hB0 : Below wr.heap.size wr W0 := by rw [hW0]; exact (Below.refl _ _).alloc (Nat.le_refl _) _
            have k0 : W0.cell? ⟨wr.heap.size, 0, none⟩ = some (.string (str t)) := by rw [hW0]; simp
            have k1 : W0.cell? ⟨wr.heap.size, 1, none⟩ = some (.int .i64 n) := by rw [hW0]; simp
            have hg0 : wr.heap.size < W0.heap.size := by rw [hW0]; simp
            have hB0w : Below w.heap.size w W0 := hb.trans (hB0.mono hsz)
            have HB0w := Lib.hid hB0w
            have HW0 := Lib.hid hW0
            cases hq : decide (Ask2 a b m) with
            | false =>
              have HQ2 : Hid (decide (Ask2 a b (m + 1)) = false) := decide_eq_false fun h => (of_decide_eq_false hq) (HST.out.1 h).1
              clear hcells hx hmk hb hB0 hB0w hW0 hq
              go_wp2_with fail
              rw [← HW0.out]
              go_quiet (fail)
              go_wp2_with fail
              go_roundg j
              case measure => omega
              case rel => exact ⟨m + 1, by have := HM.out; omega, by go_num, by rw [HQ2.out], below_drewN HB0w.out _⟩
            | true =>
              have HQ1 := Lib.hid (of_decide_eq_true hq)
              obtain ⟨y, hy⟩ : ∃ y, y = lev a t := ⟨_, rfl⟩
              have H16 : Hid (∀ W, Below W0.heap.size W0 W → Calls Tryz.prog 16 #[.slice A a.length c, .string (str t)] W fun e w' => e = .returned (.int .i64 y) ∧ Below W0.heap.size W0 w') := fun W h => by
                rw [hy]
                have hbw := hB0w.trans (h.mono hB0w.size)
                exact (refLevel_any ((HA.out.below hbw).more hbw.size) (by omega)).mono fun e w' h2 => ⟨h2.1, h.trans (h2.2.mono h.size)⟩
              have HY := Lib.hid hy
              clear hcells hx hmk hb hB0 hB0w hW0 hq hy
              go_wp2_with fail
              rw [← HW0.out]
              go_region_held3 (fun W => W.cell? ⟨wr.heap.size, 0, none⟩ = some (.string (str t)) ∧ W.cell? ⟨wr.heap.size, 1, none⟩ = some (.int .i64 n))
                (first
                  | go_keep
                  | exact ⟨(hbA.cell (p := ⟨wr.heap.size, 0, none⟩) hg0).trans k0, (hbA.cell (p := ⟨wr.heap.size, 1, none⟩) hg0).trans k1⟩)
                (first
                  | (go_at_call 16; refine (H16.out _ (Below.refl _ _).drew).mono ?_; rintro e W1 ⟨rfl, hbA⟩))
              all_goals (
                have B4 : Hid (Below w.heap.size w W1) := HB0w.out.trans (hbA.mono HB0w.out.size)
                have HQ2 : Hid (decide (Ask2 a b (m + 1)) = decide (y ≤ n)) := by
                  unfold Hid
                  rw [decide_eq_decide, HST.out]
                  exact ⟨fun h => by have := h.2; rw [← HY.out] at this; exact this, fun h => ⟨HQ1.out, by rw [← HY.out]; exact h⟩⟩
                clear hbA k0 k1 c1 c2 H16
                go_wp2_with fail
                go_roundg j
                case measure => omega
                case rel => exact ⟨m + 1, by have := HM.out; omega, by go_num, by rw [HQ2.out], B4.out⟩)
      | succ j =>
        have hm : m < a.length := by omega
        obtain ⟨⟨t, n⟩, hx⟩ : ∃ x, a[m]? = some x := ⟨_, List.getElem?_eq_getElem hm⟩
        obtain ⟨g, o, hAe, hlt, hcells⟩ := (HA.out.below hb) (by omega)
        subst hAe
        obtain ⟨c1, c2⟩ := hcells m t n hx
        have HM := Lib.hid hmk
        have HX := Lib.hid hx
        have HST := Lib.hid (ask1_step (a := a) (b := b) hx)
        have hsz := hb.size
        obtain ⟨W0, hW0⟩ : ∃ W0, W0 = wr.alloc (.cells #[.string (str t), .int .i64 n] 33) := ⟨_, rfl⟩
        have hB0 : Below wr.heap.size wr W0 := by rw [hW0]; exact (Below.refl _ _).alloc (Nat.le_refl _) _
        have k0 : W0.cell? ⟨wr.heap.size, 0, none⟩ = some (.string (str t)) := by rw [hW0]; simp
        have k1 : W0.cell? ⟨wr.heap.size, 1, none⟩ = some (.int .i64 n) := by rw [hW0]; simp
        have hg0 : wr.heap.size < W0.heap.size := by rw [hW0]; simp
        have hB0w : Below w.heap.size w W0 := hb.trans (hB0.mono hsz)
        have HB0w := Lib.hid hB0w
        have HW0 := Lib.hid hW0
        cases hq : decide (Ask1 a b m) with
        | false =>
          have HQ2 : Hid (decide (Ask1 a b (m + 1)) = false) := decide_eq_false fun h => (of_decide_eq_false hq) (HST.out.1 h).1
          clear hcells hx hmk hb hB0 hB0w hW0 hq
          go_wp2_with fail
          rw [← HW0.out]
          go_quiet (fail)
          go_wp2_with fail
          go_roundg j
          case measure => omega
          case rel => exact ⟨m + 1, by have := HM.out; omega, by go_num, by rw [HQ2.out], below_drewN HB0w.out _⟩
        | true =>
          have HQ1 := Lib.hid (of_decide_eq_true hq)
          obtain ⟨y, hy⟩ : ∃ y, y = lev b t := ⟨_, rfl⟩
          have H16 : Hid (∀ W, Below W0.heap.size W0 W → Calls Tryz.prog 16 #[.slice B b.length d, .string (str t)] W fun e w' => e = .returned (.int .i64 y) ∧ Below W0.heap.size W0 w') := fun W h => by
            rw [hy]
            have hbw := hB0w.trans (h.mono hB0w.size)
            exact (refLevel_any ((HB.out.below hbw).more hbw.size) (by omega)).mono fun e w' h2 => ⟨h2.1, h.trans (h2.2.mono h.size)⟩
          have HY := Lib.hid hy
          clear hcells hx hmk hb hB0 hB0w hW0 hq hy
          go_wp2_with fail
          rw [← HW0.out]
          go_region_held3 (fun W => W.cell? ⟨wr.heap.size, 0, none⟩ = some (.string (str t)) ∧ W.cell? ⟨wr.heap.size, 1, none⟩ = some (.int .i64 n))
            (first
              | go_keep
              | exact ⟨(hbA.cell (p := ⟨wr.heap.size, 0, none⟩) hg0).trans k0, (hbA.cell (p := ⟨wr.heap.size, 1, none⟩) hg0).trans k1⟩)
            (first
              | (go_at_call 16; refine (H16.out _ (Below.refl _ _).drew).mono ?_; rintro e W1 ⟨rfl, hbA⟩))
          all_goals (
            have B4 : Hid (Below w.heap.size w W1) := HB0w.out.trans (hbA.mono HB0w.out.size)
            have HQ2 : Hid (decide (Ask1 a b (m + 1)) = decide (n ≤ y)) := by
              unfold Hid
              rw [decide_eq_decide, HST.out]
              exact ⟨fun h => by have := h.2; rw [← HY.out] at this; exact this, fun h => ⟨HQ1.out, by rw [← HY.out]; exact h⟩⟩
            clear hbA k0 k1 c1 c2 H16
            go_wp2_with fail
            go_roundg j
            case measure => omega
            case rel => exact ⟨m + 1, by have := HM.out; omega, by go_num, by rw [HQ2.out], B4.out⟩)
end Go.Proofs.YtpokdihnimlgkaaGreatDoor
