/- The reference's Flows, Alters. -/
import Derived.Test.YtglidfmgechneaaGreatDoorRu
import Derived.Test.YtglidfmgechneaaGreatDoorAp
import Derived.Test.YtglidfmgechneaaGreatDoorOe
namespace Go.Proofs.YtglidfmgechneaaGreatDoor
open Go.RowKit

/-- What Flows has found after m rounds. -/
def FPre (a b : List Ent) (l : List (List UInt8)) (K : List Ent) (m : Nat) : Prop := RightL a ∧ RightL b ∧ OwnL l ∧ ∀ e ∈ K.take m, FlowE a b l e.1
instance (a b : List Ent) (l : List (List UInt8)) (K : List Ent) (m : Nat) : Decidable (FPre a b l K m) := by unfold FPre; infer_instance
theorem fpre_step {a b : List Ent} {l : List (List UInt8)} {K : List Ent} {m : Nat} {t : List UInt8} {n : Int} (hx : K[m]? = some (t, n)) : FPre a b l K (m + 1) ↔ FPre a b l K m ∧ FlowE a b l t := by
  constructor
  · rintro ⟨h1, h2, h3, h4⟩
    refine ⟨⟨h1, h2, h3, fun y hy => h4 y ?_⟩, h4 (t, n) ?_⟩
    · rw [List.take_add_one, hx]
      exact List.mem_append_left _ hy
    · rw [List.take_add_one, hx]
      simp
  · rintro ⟨⟨h1, h2, h3, h4⟩, h5⟩
    exact ⟨h1, h2, h3, take_all (P := fun e : Ent => FlowE a b l e.1) hx h4 h5⟩
def FlORel (w : World) (a b : List Ent) (l : List (List UInt8)) (K : List Ent) (k : Nat) (y i : Value) (wr : World) : Prop :=
  ∃ m, m + k = K.length ∧ i = .int .i64 (m : Int) ∧ y = .bool (decide (FPre a b l K m)) ∧ Below w.heap.size w wr

set_option maxRecDepth 100000 in
set_option maxHeartbeats 4000000 in
theorem refFlowsO_any {w : World} {A B L : Option Addr} {c d cl : Nat} {a b : List Ent} {l : List (List UInt8)} (ha : Lab w A c a) (hb : Lab w B d b) (hl : RL w L cl l) (hxa : ∀ e ∈ a, e.1.length ≤ 1048576) (hxb : ∀ e ∈ b, e.1.length ≤ 1048576) (hna : a.length ≤ 1000) (hnb : b.length ≤ 1000) :
    Calls Tryz.prog 26 #[.slice A a.length c, .slice B b.length d, .slice L l.length cl] w (RetB w (.bool (decide (FlowsO a b l)))) := by
  have HA := Lib.hid ha
  have HB := Lib.hid hb
  have HL := Lib.hid hl
  have HXB := Lib.hid hxb
  have H56 := Lib.hid (refRight_any (c := c) ha.ents hxa ha.len)
  clear ha hb hl hxa hxb
  by_cases hra : ¬ RightL a
  · rw [decide_eq_false hra] at H56
    have HY0 : Hid (∀ K, decide (FPre a b l K 0) = false) := fun K => decide_eq_false fun h => hra h.1
    clear hra
    go_enter Tryz.func26, Tryz.ntmps26
    go_wp2_with fail
    refine H56.out.mono ?_
    rintro e w1 ⟨rfl, hb1⟩
    have BW := Lib.hid hb1
    have LA := Lib.hid (HA.out.on hb1)
    have LB := Lib.hid (HB.out.on hb1)
    have LL := Lib.hid (HL.out.on hb1)
    clear hb1 H56
    have hle : ([] : List Ent).length + a.length ≤ 1000001 := by simp; omega
    have hr0 : Hid (EntRow (w1.alloc (.cells #[] 52)) w1.heap.size (.slice (some ⟨w1.heap.size, 0, none⟩) 0 0) []) := World.ownsRow_lit (base := w1.heap.size) w1 #[] 0 (Nat.le_refl _) (by unfold maxLen; omega) rfl
    have hal : Hid (Below w1.heap.size w1 (w1.alloc (.cells #[] 52))) := (Below.refl _ _).alloc (Nat.le_refl _) _
    have hsz0 : w1.heap.size ≤ (w1.alloc (.cells #[] 52)).heap.size := by simp
    go_wp2_with (first
      | (at_builtin; refine wpList_append_lab rfl _ _ rfl w1.heap.size _ [] rfl hr0.out w1.heap.size A c a rfl (LA.out.ents.below hal.out) LA.out.nil hle hsz0 ?_))
    intro v3 w3 hr3 hb3
    have B3 : Hid (Below w1.heap.size w1 w3) := hal.out.trans hb3
    have hs3 := B3.out.size
    have R3 : Hid (EntRow w3 w1.heap.size v3 a) := hr3
    have hle3 : a.length + b.length ≤ 1000001 := by omega
    clear hr3 hb3 hr0 hal hsz0
    go_wp2_with (first
      | (at_builtin; refine wpList_append_lab rfl _ _ rfl w1.heap.size _ a rfl R3.out w1.heap.size B d b rfl (LB.out.ents.below B3.out) LB.out.nil hle3 hs3 ?_))
    intro v4 w4 hr4 hb4
    have B4 : Hid (Below w1.heap.size w1 w4) := B3.out.trans hb4
    obtain ⟨K, hK⟩ : ∃ K, K = a ++ b := ⟨_, rfl⟩
    rw [← hK] at hr4
    obtain ⟨A', c', rfl, _, hents⟩ := hr4.ents
    have hll : K.length ≤ 2000 := by rw [hK, List.length_append]; omega
    have HLL := Lib.hid hK
    have HN := Lib.hid hents
    have LA4 := Lib.hid (LA.out.on B4.out)
    have LB4 := Lib.hid (LB.out.on B4.out)
    have LL4 := Lib.hid (LL.out.on B4.out)
    have BW4 : Hid (Below w.heap.size w w4) := BW.out.trans (B4.out.mono BW.out.size)
    clear hr4 hb4 hents hK R3
    go_wp2_with fail
    go_loopg [7, 26] K.length (fun k y i wr => FlORel w4 a b l K k y i wr)
    case atStart => exact ⟨0, by simp, rfl, by rw [HY0.out] <;> rfl, Below.refl _ _⟩
    case round =>
      obtain ⟨m, hmk, hi, hy, hb⟩ := hrel
      subst hi
      obtain ⟨z, hz⟩ : ∃ z, z = decide (FPre a b l K m) := ⟨_, rfl⟩
      rw [← hz] at hy
      subst hy
      have HW := Lib.hid hb
      have hsz := hb.size
      cases gk with
      | zero =>
        have hge : K.length ≤ m := by omega
        have HD : Hid (decide (FlowsO a b l) = z) := by
          unfold Hid
          rw [hz]
          refine decide_eq_decide.2 ?_
          unfold FPre FlowsO
          rw [List.take_of_length_le hge, HLL.out]
          exact Iff.rfl
        clear hb hz
        go_wp2_with fail
        go_ret
        exact ⟨by rw [HD.out] <;> rfl, BW4.out.trans (HW.out.mono BW4.out.size)⟩
      | succ j =>
        have hm : m < K.length := by omega
        obtain ⟨⟨t, n⟩, hx⟩ : ∃ x, K[m]? = some x := ⟨_, List.getElem?_eq_getElem hm⟩
        obtain ⟨g, o, rfl, hlt, hcells⟩ := (HN.out.below hb) (by omega)
        obtain ⟨c1, c2⟩ := hcells m t n hx
        have HM := Lib.hid hmk
        have HST : Hid (decide (FPre a b l K (m + 1)) = (z && decide (FlowE a b l t))) := by
          unfold Hid
          rw [hz, ← Bool.decide_and]
          exact decide_eq_decide.2 (fpre_step hx)
        obtain ⟨W0, hW0⟩ : ∃ W0, W0 = wr.alloc (.cells #[.string (str t), .int .i64 n] 52) := ⟨_, rfl⟩
        have hB0 : Below wr.heap.size wr W0 := by rw [hW0]; exact (Below.refl _ _).alloc (Nat.le_refl _) _
        have k0 : W0.cell? ⟨wr.heap.size, 0, none⟩ = some (.string (str t)) := by rw [hW0]; simp
        have hg0 : wr.heap.size < W0.heap.size := by rw [hW0]; simp
        have hB04 : Below w4.heap.size w4 W0 := HW.out.trans (hB0.mono hsz)
        have LA0 := LA4.out.on hB04
        have LB0 := LB4.out.on hB04
        have LL0 := LL4.out.on hB04
        have HB04 := Lib.hid hB04
        have HW0 := Lib.hid hW0
        by_cases hin : t ∈ l
        · have HF : Hid (decide (FlowE a b l t) = true) := decide_eq_true (.inl hin)
          have HQ : Hid (∀ q, Calls Tryz.prog 19 #[.slice L l.length cl, .string (str t)] (W0.drewN q) fun e w' => e = .returned (.bool true) ∧ w' = W0.drewN q) := fun q =>
            (refHas_any (LL0.on (below_drewN (Below.refl _ _) q)).strs LL0.len).mono fun e w' h2 => ⟨by rw [h2.1, decide_eq_true hin], h2.2.symm⟩
          clear hcells hx hmk hb hB0 hB04 hW0 hin hz LA0 LB0 LL0
          go_wp2_with fail
          rw [← HW0.out]
          go_quiet (first | (go_at_call 19; refine Calls.quiet_of_same (HQ.out _)))
          clear c1 c2 k0
          go_wp2_with fail
          go_roundg j
          case measure => omega
          case rel => exact ⟨m + 1, by have := HM.out; omega, by go_num, by rw [HST.out, HF.out]; simp, below_drewN HB04.out _⟩
        · obtain ⟨ya, hya⟩ : ∃ y, y = lev a t := ⟨_, rfl⟩
          obtain ⟨yb, hyb⟩ : ∃ y, y = lev b t := ⟨_, rfl⟩
          have H19 : Hid (∀ X, Below W0.heap.size W0 X → Calls Tryz.prog 19 #[.slice L l.length cl, .string (str t)] X fun e w' => e = .returned (.bool false) ∧ Below W0.heap.size W0 w') := fun X hX =>
            (refHas_any (LL0.on hX).strs LL0.len).mono fun e w' h2 => ⟨by rw [h2.1, decide_eq_false hin], by rw [← h2.2]; exact hX⟩
          have H57a : Hid (∀ X, Below W0.heap.size W0 X → Calls Tryz.prog 57 #[.slice A a.length c, .string (str t)] X fun e w' => e = .returned (.int .i64 ya) ∧ Below W0.heap.size W0 w') := fun X hX => by
            rw [hya]
            exact (refLevel_any (LA0.on hX).ents (by omega)).mono fun e w' h2 => ⟨h2.1, hX.trans (h2.2.mono hX.size)⟩
          have H57b : Hid (∀ X, Below W0.heap.size W0 X → Calls Tryz.prog 57 #[.slice B b.length d, .string (str t)] X fun e w' => e = .returned (.int .i64 yb) ∧ Below W0.heap.size W0 w') := fun X hX => by
            rw [hyb]
            exact (refLevel_any (LB0.on hX).ents (by omega)).mono fun e w' h2 => ⟨h2.1, hX.trans (h2.2.mono hX.size)⟩
          have HF : Hid (decide (FlowE a b l t) = decide (ya ≤ yb)) := decide_eq_decide.2 ⟨fun h => h.elim (fun h => absurd h hin) (fun h => by rw [hya, hyb]; exact h), fun h => .inr (by rw [← hya, ← hyb]; exact h)⟩
          clear hcells hx hmk hb hB0 hB04 hW0 hin hz LA0 LB0 LL0 hya hyb
          go_wp2_with fail
          rw [← HW0.out]
          go_region_held3 (fun X => X.cell? ⟨wr.heap.size, 0, none⟩ = some (.string (str t)))
            (first
              | go_keep
              | exact (hbC.cell (p := ⟨wr.heap.size, 0, none⟩) hg0).trans k0
              | exact (hbB.cell (p := ⟨wr.heap.size, 0, none⟩) hg0).trans k0
              | exact (hbA.cell (p := ⟨wr.heap.size, 0, none⟩) hg0).trans k0)
            (first
              | (go_at_call 57; refine (H57b.out _ hbB).mono ?_; rintro e W3 ⟨rfl, hbC⟩)
              | (go_at_call 57; refine (H57a.out _ hbA).mono ?_; rintro e W2 ⟨rfl, hbB⟩)
              | (go_at_call 19; refine (H19.out _ (Below.refl _ _).drew).mono ?_; rintro e W1 ⟨rfl, hbA⟩))
          have BC : Hid (Below w4.heap.size w4 W3) := HB04.out.trans (hbC.mono HB04.out.size)
          clear hbA hbB hbC k0 c1 c2 H19 H57a H57b
          by_cases hgt : ya > yb
          · have HF2 : Hid (decide (ya ≤ yb) = false) := decide_eq_false (by omega)
            go_wp2_with fail
            go_roundg j
            case measure => omega
            case rel => exact ⟨m + 1, by have := HM.out; omega, by go_num, by rw [HST.out, HF.out, HF2.out]; simp, BC.out⟩
          · have HF2 : Hid (decide (ya ≤ yb) = true) := decide_eq_true (by omega)
            go_wp2_with fail
            go_roundg j
            case measure => omega
            case rel => exact ⟨m + 1, by have := HM.out; omega, by go_num, by rw [HST.out, HF.out, HF2.out]; simp, BC.out⟩
  replace hra := Decidable.not_not.1 hra
  rw [decide_eq_true hra] at H56
  have RA := Lib.hid hra
  clear hra
  go_enter Tryz.func26, Tryz.ntmps26
  go_wp2_with fail
  refine H56.out.mono ?_
  rintro e w1 ⟨rfl, hb1⟩
  have B1 := Lib.hid hb1
  have A1 := Lib.hid (HA.out.on hb1)
  have C1 := Lib.hid (HB.out.on hb1)
  have L1 := Lib.hid (HL.out.on hb1)
  have H56b := Lib.hid (refRight_any (c := d) C1.out.ents HXB.out C1.out.len)
  clear hb1 H56
  by_cases hrb : ¬ RightL b
  · rw [decide_eq_false hrb] at H56b
    have HY0 : Hid (∀ K, decide (FPre a b l K 0) = false) := fun K => decide_eq_false fun h => hrb h.2.1
    clear hrb
    go_wp2_with fail
    refine H56b.out.mono ?_
    rintro e w2 ⟨rfl, hb2⟩
    have BW : Hid (Below w.heap.size w w2) := B1.out.trans (hb2.mono B1.out.size)
    have LA := Lib.hid (A1.out.on hb2)
    have LB := Lib.hid (C1.out.on hb2)
    have LL := Lib.hid (L1.out.on hb2)
    clear hb2 H56b
    have hle : ([] : List Ent).length + a.length ≤ 1000001 := by simp; omega
    have hr0 : Hid (EntRow (w2.alloc (.cells #[] 52)) w2.heap.size (.slice (some ⟨w2.heap.size, 0, none⟩) 0 0) []) := World.ownsRow_lit (base := w2.heap.size) w2 #[] 0 (Nat.le_refl _) (by unfold maxLen; omega) rfl
    have hal : Hid (Below w2.heap.size w2 (w2.alloc (.cells #[] 52))) := (Below.refl _ _).alloc (Nat.le_refl _) _
    have hsz0 : w2.heap.size ≤ (w2.alloc (.cells #[] 52)).heap.size := by simp
    go_wp2_with (first
      | (at_builtin; refine wpList_append_lab rfl _ _ rfl w2.heap.size _ [] rfl hr0.out w2.heap.size A c a rfl (LA.out.ents.below hal.out) LA.out.nil hle hsz0 ?_))
    intro v3 w3 hr3 hb3
    have B3 : Hid (Below w2.heap.size w2 w3) := hal.out.trans hb3
    have hs3 := B3.out.size
    have R3 : Hid (EntRow w3 w2.heap.size v3 a) := hr3
    have hle3 : a.length + b.length ≤ 1000001 := by omega
    clear hr3 hb3 hr0 hal hsz0
    go_wp2_with (first
      | (at_builtin; refine wpList_append_lab rfl _ _ rfl w2.heap.size _ a rfl R3.out w2.heap.size B d b rfl (LB.out.ents.below B3.out) LB.out.nil hle3 hs3 ?_))
    intro v4 w4 hr4 hb4
    have B4 : Hid (Below w2.heap.size w2 w4) := B3.out.trans hb4
    obtain ⟨K, hK⟩ : ∃ K, K = a ++ b := ⟨_, rfl⟩
    rw [← hK] at hr4
    obtain ⟨A', c', rfl, _, hents⟩ := hr4.ents
    have hll : K.length ≤ 2000 := by rw [hK, List.length_append]; omega
    have HLL := Lib.hid hK
    have HN := Lib.hid hents
    have LA4 := Lib.hid (LA.out.on B4.out)
    have LB4 := Lib.hid (LB.out.on B4.out)
    have LL4 := Lib.hid (LL.out.on B4.out)
    have BW4 : Hid (Below w.heap.size w w4) := BW.out.trans (B4.out.mono BW.out.size)
    clear hr4 hb4 hents hK R3
    go_wp2_with fail
    go_loopg [7, 26] K.length (fun k y i wr => FlORel w4 a b l K k y i wr)
    case atStart => exact ⟨0, by simp, rfl, by rw [HY0.out] <;> rfl, Below.refl _ _⟩
    case round =>
      obtain ⟨m, hmk, hi, hy, hb⟩ := hrel
      subst hi
      obtain ⟨z, hz⟩ : ∃ z, z = decide (FPre a b l K m) := ⟨_, rfl⟩
      rw [← hz] at hy
      subst hy
      have HW := Lib.hid hb
      have hsz := hb.size
      cases gk with
      | zero =>
        have hge : K.length ≤ m := by omega
        have HD : Hid (decide (FlowsO a b l) = z) := by
          unfold Hid
          rw [hz]
          refine decide_eq_decide.2 ?_
          unfold FPre FlowsO
          rw [List.take_of_length_le hge, HLL.out]
          exact Iff.rfl
        clear hb hz
        go_wp2_with fail
        go_ret
        exact ⟨by rw [HD.out] <;> rfl, BW4.out.trans (HW.out.mono BW4.out.size)⟩
      | succ j =>
        have hm : m < K.length := by omega
        obtain ⟨⟨t, n⟩, hx⟩ : ∃ x, K[m]? = some x := ⟨_, List.getElem?_eq_getElem hm⟩
        obtain ⟨g, o, rfl, hlt, hcells⟩ := (HN.out.below hb) (by omega)
        obtain ⟨c1, c2⟩ := hcells m t n hx
        have HM := Lib.hid hmk
        have HST : Hid (decide (FPre a b l K (m + 1)) = (z && decide (FlowE a b l t))) := by
          unfold Hid
          rw [hz, ← Bool.decide_and]
          exact decide_eq_decide.2 (fpre_step hx)
        obtain ⟨W0, hW0⟩ : ∃ W0, W0 = wr.alloc (.cells #[.string (str t), .int .i64 n] 52) := ⟨_, rfl⟩
        have hB0 : Below wr.heap.size wr W0 := by rw [hW0]; exact (Below.refl _ _).alloc (Nat.le_refl _) _
        have k0 : W0.cell? ⟨wr.heap.size, 0, none⟩ = some (.string (str t)) := by rw [hW0]; simp
        have hg0 : wr.heap.size < W0.heap.size := by rw [hW0]; simp
        have hB04 : Below w4.heap.size w4 W0 := HW.out.trans (hB0.mono hsz)
        have LA0 := LA4.out.on hB04
        have LB0 := LB4.out.on hB04
        have LL0 := LL4.out.on hB04
        have HB04 := Lib.hid hB04
        have HW0 := Lib.hid hW0
        by_cases hin : t ∈ l
        · have HF : Hid (decide (FlowE a b l t) = true) := decide_eq_true (.inl hin)
          have HQ : Hid (∀ q, Calls Tryz.prog 19 #[.slice L l.length cl, .string (str t)] (W0.drewN q) fun e w' => e = .returned (.bool true) ∧ w' = W0.drewN q) := fun q =>
            (refHas_any (LL0.on (below_drewN (Below.refl _ _) q)).strs LL0.len).mono fun e w' h2 => ⟨by rw [h2.1, decide_eq_true hin], h2.2.symm⟩
          clear hcells hx hmk hb hB0 hB04 hW0 hin hz LA0 LB0 LL0
          go_wp2_with fail
          rw [← HW0.out]
          go_quiet (first | (go_at_call 19; refine Calls.quiet_of_same (HQ.out _)))
          clear c1 c2 k0
          go_wp2_with fail
          go_roundg j
          case measure => omega
          case rel => exact ⟨m + 1, by have := HM.out; omega, by go_num, by rw [HST.out, HF.out]; simp, below_drewN HB04.out _⟩
        · obtain ⟨ya, hya⟩ : ∃ y, y = lev a t := ⟨_, rfl⟩
          obtain ⟨yb, hyb⟩ : ∃ y, y = lev b t := ⟨_, rfl⟩
          have H19 : Hid (∀ X, Below W0.heap.size W0 X → Calls Tryz.prog 19 #[.slice L l.length cl, .string (str t)] X fun e w' => e = .returned (.bool false) ∧ Below W0.heap.size W0 w') := fun X hX =>
            (refHas_any (LL0.on hX).strs LL0.len).mono fun e w' h2 => ⟨by rw [h2.1, decide_eq_false hin], by rw [← h2.2]; exact hX⟩
          have H57a : Hid (∀ X, Below W0.heap.size W0 X → Calls Tryz.prog 57 #[.slice A a.length c, .string (str t)] X fun e w' => e = .returned (.int .i64 ya) ∧ Below W0.heap.size W0 w') := fun X hX => by
            rw [hya]
            exact (refLevel_any (LA0.on hX).ents (by omega)).mono fun e w' h2 => ⟨h2.1, hX.trans (h2.2.mono hX.size)⟩
          have H57b : Hid (∀ X, Below W0.heap.size W0 X → Calls Tryz.prog 57 #[.slice B b.length d, .string (str t)] X fun e w' => e = .returned (.int .i64 yb) ∧ Below W0.heap.size W0 w') := fun X hX => by
            rw [hyb]
            exact (refLevel_any (LB0.on hX).ents (by omega)).mono fun e w' h2 => ⟨h2.1, hX.trans (h2.2.mono hX.size)⟩
          have HF : Hid (decide (FlowE a b l t) = decide (ya ≤ yb)) := decide_eq_decide.2 ⟨fun h => h.elim (fun h => absurd h hin) (fun h => by rw [hya, hyb]; exact h), fun h => .inr (by rw [← hya, ← hyb]; exact h)⟩
          clear hcells hx hmk hb hB0 hB04 hW0 hin hz LA0 LB0 LL0 hya hyb
          go_wp2_with fail
          rw [← HW0.out]
          go_region_held3 (fun X => X.cell? ⟨wr.heap.size, 0, none⟩ = some (.string (str t)))
            (first
              | go_keep
              | exact (hbC.cell (p := ⟨wr.heap.size, 0, none⟩) hg0).trans k0
              | exact (hbB.cell (p := ⟨wr.heap.size, 0, none⟩) hg0).trans k0
              | exact (hbA.cell (p := ⟨wr.heap.size, 0, none⟩) hg0).trans k0)
            (first
              | (go_at_call 57; refine (H57b.out _ hbB).mono ?_; rintro e W3 ⟨rfl, hbC⟩)
              | (go_at_call 57; refine (H57a.out _ hbA).mono ?_; rintro e W2 ⟨rfl, hbB⟩)
              | (go_at_call 19; refine (H19.out _ (Below.refl _ _).drew).mono ?_; rintro e W1 ⟨rfl, hbA⟩))
          have BC : Hid (Below w4.heap.size w4 W3) := HB04.out.trans (hbC.mono HB04.out.size)
          clear hbA hbB hbC k0 c1 c2 H19 H57a H57b
          by_cases hgt : ya > yb
          · have HF2 : Hid (decide (ya ≤ yb) = false) := decide_eq_false (by omega)
            go_wp2_with fail
            go_roundg j
            case measure => omega
            case rel => exact ⟨m + 1, by have := HM.out; omega, by go_num, by rw [HST.out, HF.out, HF2.out]; simp, BC.out⟩
          · have HF2 : Hid (decide (ya ≤ yb) = true) := decide_eq_true (by omega)
            go_wp2_with fail
            go_roundg j
            case measure => omega
            case rel => exact ⟨m + 1, by have := HM.out; omega, by go_num, by rw [HST.out, HF.out, HF2.out]; simp, BC.out⟩
  replace hrb := Decidable.not_not.1 hrb
  rw [decide_eq_true hrb] at H56b
  have RB := Lib.hid hrb
  clear hrb
  go_wp2_with fail
  refine H56b.out.mono ?_
  rintro e w2 ⟨rfl, hb2⟩
  have B2 : Hid (Below w.heap.size w w2) := B1.out.trans (hb2.mono B1.out.size)
  have A2 := Lib.hid (A1.out.on hb2)
  have C2 := Lib.hid (C1.out.on hb2)
  have L2 := Lib.hid (L1.out.on hb2)
  have H17 := Lib.hid (refRightO_any (c := cl) L2.out.strs L2.out.txt L2.out.len)
  have HY0 : Hid (∀ K, decide (FPre a b l K 0) = decide (OwnL l)) := fun K => decide_eq_decide.2 ⟨fun h => h.2.2.1, fun h => ⟨RA.out, RB.out, h, by simp⟩⟩
  clear hb2 H56b
  go_wp2_with fail
  refine H17.out.mono ?_
  rintro e w5 ⟨rfl, hb5⟩
  have BW : Hid (Below w.heap.size w w5) := B2.out.trans (hb5.mono B2.out.size)
  have LA := Lib.hid (A2.out.on hb5)
  have LB := Lib.hid (C2.out.on hb5)
  have LL := Lib.hid (L2.out.on hb5)
  clear hb5 H17
  have hle : ([] : List Ent).length + a.length ≤ 1000001 := by simp; omega
  have hr0 : Hid (EntRow (w5.alloc (.cells #[] 52)) w5.heap.size (.slice (some ⟨w5.heap.size, 0, none⟩) 0 0) []) := World.ownsRow_lit (base := w5.heap.size) w5 #[] 0 (Nat.le_refl _) (by unfold maxLen; omega) rfl
  have hal : Hid (Below w5.heap.size w5 (w5.alloc (.cells #[] 52))) := (Below.refl _ _).alloc (Nat.le_refl _) _
  have hsz0 : w5.heap.size ≤ (w5.alloc (.cells #[] 52)).heap.size := by simp
  go_wp2_with (first
    | (at_builtin; refine wpList_append_lab rfl _ _ rfl w5.heap.size _ [] rfl hr0.out w5.heap.size A c a rfl (LA.out.ents.below hal.out) LA.out.nil hle hsz0 ?_))
  intro v3 w3 hr3 hb3
  have B3 : Hid (Below w5.heap.size w5 w3) := hal.out.trans hb3
  have hs3 := B3.out.size
  have R3 : Hid (EntRow w3 w5.heap.size v3 a) := hr3
  have hle3 : a.length + b.length ≤ 1000001 := by omega
  clear hr3 hb3 hr0 hal hsz0
  go_wp2_with (first
    | (at_builtin; refine wpList_append_lab rfl _ _ rfl w5.heap.size _ a rfl R3.out w5.heap.size B d b rfl (LB.out.ents.below B3.out) LB.out.nil hle3 hs3 ?_))
  intro v4 w4 hr4 hb4
  have B4 : Hid (Below w5.heap.size w5 w4) := B3.out.trans hb4
  obtain ⟨K, hK⟩ : ∃ K, K = a ++ b := ⟨_, rfl⟩
  rw [← hK] at hr4
  obtain ⟨A', c', rfl, _, hents⟩ := hr4.ents
  have hll : K.length ≤ 2000 := by rw [hK, List.length_append]; omega
  have HLL := Lib.hid hK
  have HN := Lib.hid hents
  have LA4 := Lib.hid (LA.out.on B4.out)
  have LB4 := Lib.hid (LB.out.on B4.out)
  have LL4 := Lib.hid (LL.out.on B4.out)
  have BW4 : Hid (Below w.heap.size w w4) := BW.out.trans (B4.out.mono BW.out.size)
  clear hr4 hb4 hents hK R3
  go_wp2_with fail
  go_loopg [7, 26] K.length (fun k y i wr => FlORel w4 a b l K k y i wr)
  case atStart => exact ⟨0, by simp, rfl, by rw [HY0.out] <;> rfl, Below.refl _ _⟩
  case round =>
    obtain ⟨m, hmk, hi, hy, hb⟩ := hrel
    subst hi
    obtain ⟨z, hz⟩ : ∃ z, z = decide (FPre a b l K m) := ⟨_, rfl⟩
    rw [← hz] at hy
    subst hy
    have HW := Lib.hid hb
    have hsz := hb.size
    cases gk with
    | zero =>
      have hge : K.length ≤ m := by omega
      have HD : Hid (decide (FlowsO a b l) = z) := by
        unfold Hid
        rw [hz]
        refine decide_eq_decide.2 ?_
        unfold FPre FlowsO
        rw [List.take_of_length_le hge, HLL.out]
        exact Iff.rfl
      clear hb hz
      go_wp2_with fail
      go_ret
      exact ⟨by rw [HD.out] <;> rfl, BW4.out.trans (HW.out.mono BW4.out.size)⟩
    | succ j =>
      have hm : m < K.length := by omega
      obtain ⟨⟨t, n⟩, hx⟩ : ∃ x, K[m]? = some x := ⟨_, List.getElem?_eq_getElem hm⟩
      obtain ⟨g, o, rfl, hlt, hcells⟩ := (HN.out.below hb) (by omega)
      obtain ⟨c1, c2⟩ := hcells m t n hx
      have HM := Lib.hid hmk
      have HST : Hid (decide (FPre a b l K (m + 1)) = (z && decide (FlowE a b l t))) := by
        unfold Hid
        rw [hz, ← Bool.decide_and]
        exact decide_eq_decide.2 (fpre_step hx)
      obtain ⟨W0, hW0⟩ : ∃ W0, W0 = wr.alloc (.cells #[.string (str t), .int .i64 n] 52) := ⟨_, rfl⟩
      have hB0 : Below wr.heap.size wr W0 := by rw [hW0]; exact (Below.refl _ _).alloc (Nat.le_refl _) _
      have k0 : W0.cell? ⟨wr.heap.size, 0, none⟩ = some (.string (str t)) := by rw [hW0]; simp
      have hg0 : wr.heap.size < W0.heap.size := by rw [hW0]; simp
      have hB04 : Below w4.heap.size w4 W0 := HW.out.trans (hB0.mono hsz)
      have LA0 := LA4.out.on hB04
      have LB0 := LB4.out.on hB04
      have LL0 := LL4.out.on hB04
      have HB04 := Lib.hid hB04
      have HW0 := Lib.hid hW0
      by_cases hin : t ∈ l
      · have HF : Hid (decide (FlowE a b l t) = true) := decide_eq_true (.inl hin)
        have HQ : Hid (∀ q, Calls Tryz.prog 19 #[.slice L l.length cl, .string (str t)] (W0.drewN q) fun e w' => e = .returned (.bool true) ∧ w' = W0.drewN q) := fun q =>
          (refHas_any (LL0.on (below_drewN (Below.refl _ _) q)).strs LL0.len).mono fun e w' h2 => ⟨by rw [h2.1, decide_eq_true hin], h2.2.symm⟩
        clear hcells hx hmk hb hB0 hB04 hW0 hin hz LA0 LB0 LL0
        go_wp2_with fail
        rw [← HW0.out]
        go_quiet (first | (go_at_call 19; refine Calls.quiet_of_same (HQ.out _)))
        clear c1 c2 k0
        go_wp2_with fail
        go_roundg j
        case measure => omega
        case rel => exact ⟨m + 1, by have := HM.out; omega, by go_num, by rw [HST.out, HF.out]; simp, below_drewN HB04.out _⟩
      · obtain ⟨ya, hya⟩ : ∃ y, y = lev a t := ⟨_, rfl⟩
        obtain ⟨yb, hyb⟩ : ∃ y, y = lev b t := ⟨_, rfl⟩
        have H19 : Hid (∀ X, Below W0.heap.size W0 X → Calls Tryz.prog 19 #[.slice L l.length cl, .string (str t)] X fun e w' => e = .returned (.bool false) ∧ Below W0.heap.size W0 w') := fun X hX =>
          (refHas_any (LL0.on hX).strs LL0.len).mono fun e w' h2 => ⟨by rw [h2.1, decide_eq_false hin], by rw [← h2.2]; exact hX⟩
        have H57a : Hid (∀ X, Below W0.heap.size W0 X → Calls Tryz.prog 57 #[.slice A a.length c, .string (str t)] X fun e w' => e = .returned (.int .i64 ya) ∧ Below W0.heap.size W0 w') := fun X hX => by
          rw [hya]
          exact (refLevel_any (LA0.on hX).ents (by omega)).mono fun e w' h2 => ⟨h2.1, hX.trans (h2.2.mono hX.size)⟩
        have H57b : Hid (∀ X, Below W0.heap.size W0 X → Calls Tryz.prog 57 #[.slice B b.length d, .string (str t)] X fun e w' => e = .returned (.int .i64 yb) ∧ Below W0.heap.size W0 w') := fun X hX => by
          rw [hyb]
          exact (refLevel_any (LB0.on hX).ents (by omega)).mono fun e w' h2 => ⟨h2.1, hX.trans (h2.2.mono hX.size)⟩
        have HF : Hid (decide (FlowE a b l t) = decide (ya ≤ yb)) := decide_eq_decide.2 ⟨fun h => h.elim (fun h => absurd h hin) (fun h => by rw [hya, hyb]; exact h), fun h => .inr (by rw [← hya, ← hyb]; exact h)⟩
        clear hcells hx hmk hb hB0 hB04 hW0 hin hz LA0 LB0 LL0 hya hyb
        go_wp2_with fail
        rw [← HW0.out]
        go_region_held3 (fun X => X.cell? ⟨wr.heap.size, 0, none⟩ = some (.string (str t)))
          (first
            | go_keep
            | exact (hbC.cell (p := ⟨wr.heap.size, 0, none⟩) hg0).trans k0
            | exact (hbB.cell (p := ⟨wr.heap.size, 0, none⟩) hg0).trans k0
            | exact (hbA.cell (p := ⟨wr.heap.size, 0, none⟩) hg0).trans k0)
          (first
            | (go_at_call 57; refine (H57b.out _ hbB).mono ?_; rintro e W3 ⟨rfl, hbC⟩)
            | (go_at_call 57; refine (H57a.out _ hbA).mono ?_; rintro e W2 ⟨rfl, hbB⟩)
            | (go_at_call 19; refine (H19.out _ (Below.refl _ _).drew).mono ?_; rintro e W1 ⟨rfl, hbA⟩))
        have BC : Hid (Below w4.heap.size w4 W3) := HB04.out.trans (hbC.mono HB04.out.size)
        clear hbA hbB hbC k0 c1 c2 H19 H57a H57b
        by_cases hgt : ya > yb
        · have HF2 : Hid (decide (ya ≤ yb) = false) := decide_eq_false (by omega)
          go_wp2_with fail
          go_roundg j
          case measure => omega
          case rel => exact ⟨m + 1, by have := HM.out; omega, by go_num, by rw [HST.out, HF.out, HF2.out]; simp, BC.out⟩
        · have HF2 : Hid (decide (ya ≤ yb) = true) := decide_eq_true (by omega)
          go_wp2_with fail
          go_roundg j
          case measure => omega
          case rel => exact ⟨m + 1, by have := HM.out; omega, by go_num, by rw [HST.out, HF.out, HF2.out]; simp, BC.out⟩

set_option maxRecDepth 100000 in
theorem refAlters_any {w : World} {A B L : Option Addr} {c d cl : Nat} {a b : List Ent} {l : List (List UInt8)} (ha : Lab w A c a) (hb : Lab w B d b) (hl : RL w L cl l) (hxa : ∀ e ∈ a, e.1.length ≤ 1048576) (hxb : ∀ e ∈ b, e.1.length ≤ 1048576) (hna : a.length ≤ 1000) (hnb : b.length ≤ 1000) :
    Calls Tryz.prog 29 #[.slice A a.length c, .slice B b.length d, .slice L l.length cl] w (RetB w (.bool (decide (AltersO a b l)))) := by
  have HA := Lib.hid ha
  have HB := Lib.hid hb
  have HL := Lib.hid hl
  have HXA := Lib.hid hxa
  have HXB := Lib.hid hxb
  have H26 := Lib.hid (refFlowsO_any ha hb hl hxa hxb hna hnb)
  clear ha hb hl hxa hxb
  by_cases hf : ¬ FlowsO a b l
  · rw [decide_eq_false hf] at H26
    have HD : Hid (decide (AltersO a b l) = false) := decide_eq_false fun h => hf h.1
    clear hf
    go_enter Tryz.func29, Tryz.ntmps29
    go_wp2_with fail
    refine H26.out.mono ?_
    rintro e w1 ⟨rfl, hb1⟩
    have B1 := Lib.hid hb1
    clear hb1
    go_wp2_with fail
    go_ret
    exact ⟨by rw [HD.out] <;> rfl, B1.out⟩
  replace hf := Decidable.not_not.1 hf
  rw [decide_eq_true hf] at H26
  have HD : Hid (decide (AltersO a b l) = decide (FlowsO b a l)) := decide_eq_decide.2 ⟨fun h => h.2, fun h => ⟨hf, h⟩⟩
  clear hf
  go_enter Tryz.func29, Tryz.ntmps29
  go_wp2_with fail
  refine H26.out.mono ?_
  rintro e w1 ⟨rfl, hb1⟩
  have B1 := Lib.hid hb1
  have H25 := Lib.hid (refFlowsO_any (HB.out.on hb1) (HA.out.on hb1) (HL.out.on hb1) HXB.out HXA.out hnb hna)
  rw [← HD.out] at H25
  clear hb1 H26
  go_wp2_with fail
  refine H25.out.mono ?_
  rintro e w2 ⟨rfl, hb2⟩
  have B2 : Hid (Below w.heap.size w w2) := B1.out.trans (hb2.mono B1.out.size)
  clear hb2 H25
  go_wp2_with fail
  go_ret
  exact ⟨rfl, B2.out⟩
end Go.Proofs.YtglidfmgechneaaGreatDoor
