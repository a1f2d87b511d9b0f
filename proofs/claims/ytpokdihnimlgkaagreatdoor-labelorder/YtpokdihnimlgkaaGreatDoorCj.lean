/- label.combine with label.Join's function, label.Join. -/
import Derived.Test.YtpokdihnimlgkaaGreatDoorMk
import Derived.Test.YtpokdihnimlgkaaGreatDoorMx
namespace Go.Proofs.YtpokdihnimlgkaaGreatDoor
open Go.RowKit

def CbJoinRel (w : World) (a b L : List Ent) (k : Nat) (v i : Value) (wr : World) : Prop :=
  ∃ m, m + k = L.length ∧ i = .int .i64 (m : Int) ∧ EntRow wr w.heap.size v ((L.take m).map fun e => (e.1, pickHi (lev a e.1) (lev b e.1))) ∧ Below w.heap.size w wr

set_option maxRecDepth 100000 in
set_option maxHeartbeats 2000000 in
theorem combineJoin_any {w : World} {A B : Option Addr} {c d : Nat} {a b : List Ent} (he : Env w) (ha : Lab w A c a) (hb : Lab w B d b) :
    Calls Tryz.prog 48 #[.slice A a.length c, .slice B b.length d, .func (.func 49) #[] #[]] w (RetLab w (MixOut pickHi a b)) := by
  have HE := Lib.hid he
  have HA := Lib.hid ha
  have HB := Lib.hid hb
  have H14a := Lib.hid (labelRight_any (c := c) he ha.ents ha.txt ha.len)
  clear he ha hb
  by_cases hra : RightL a
  · rw [decide_eq_true hra] at H14a
    have RA := Lib.hid hra
    clear hra
    go_enter Tryz.func48, Tryz.ntmps48
    go_wp2_with fail
    refine H14a.out.mono ?_
    rintro e w1 ⟨rfl, hb1⟩
    have B1 := Lib.hid hb1
    have E1 := Lib.hid (HE.out.on hb1)
    have A1 := Lib.hid (HA.out.on hb1)
    have C1 := Lib.hid (HB.out.on hb1)
    have H14b := Lib.hid (labelRight_any (c := d) E1.out C1.out.ents C1.out.txt C1.out.len)
    clear hb1 H14a
    by_cases hrb : RightL b
    · rw [decide_eq_true hrb] at H14b
      have RB := Lib.hid hrb
      clear hrb
      go_wp2_with fail
      refine H14b.out.mono ?_
      rintro e w2 ⟨rfl, hb2⟩
      have B2 := Lib.hid (B1.out.trans (hb2.mono B1.out.size))
      have E2 := Lib.hid (E1.out.on hb2)
      have hn8 : a.length + b.length ≤ 16 := by have h1 := RA.out.1; have h2 := RB.out.1; omega
      have hal : Below w2.heap.size w2 (w2.alloc (.cells #[.slice A a.length c, .slice B b.length d] 23)) := (Below.refl _ _).alloc (Nat.le_refl _) _
      have A2 := Lib.hid (A1.out.on hb2)
      have C2 := Lib.hid (C1.out.on hb2)
      have H36 := Lib.hid (concat_any (w := w2.alloc (.cells #[.slice A a.length c, .slice B b.length d] 23)) (b := w2.heap.size) (o := 0) (by simp) (by simp) (by simp) (A2.out.on hal).ents (C2.out.on hal).ents A2.out.nil C2.out.nil (by omega))
      have HAL := Lib.hid hal
      clear hb2 H14b hal
      go_wp2_with fail
      refine H36.out.mono ?_
      rintro e w3 ⟨v, rfl, hrow, hb3⟩
      obtain ⟨L, hL⟩ : ∃ L, L = a ++ b := ⟨_, rfl⟩
      rw [← hL] at hrow
      have HLL := Lib.hid hL
      obtain ⟨A', c', rfl, _, hents⟩ := hrow.ents
      have hll : L.length ≤ 16 := by rw [hL, List.length_append]; exact hn8
      have HTX : Hid (∀ e ∈ L, e.1.length ≤ 140737488351232) := fun e h => by
        rw [hL] at h
        rcases List.mem_append.1 h with h | h
        · exact A1.out.txt e h
        · exact C1.out.txt e h
      have B3 : Hid (Below w2.heap.size w2 w3) := HAL.out.trans (hb3.mono HAL.out.size)
      have HN := Lib.hid hents
      have E3 := Lib.hid (E2.out.on B3.out)
      have A3 := Lib.hid (A2.out.on B3.out)
      have C3 := Lib.hid (C2.out.on B3.out)
      clear hb3 hrow hents H36 hL
      go_wp2_with fail
      go_loopg [8, 25] L.length (fun k v i wr => CbJoinRel w3 a b L k v i wr)
      case atStart => exact ⟨0, by simp, rfl, World.ownsRow_nil _ _ _ _, Below.refl _ _⟩
      case round =>
        obtain ⟨m, hmk, hi, hrow, hb⟩ := hrel
        subst hi
        have HW := Lib.hid hb
        have HROW := Lib.hid hrow
        have hsz := hb.size
        cases gk with
        | zero =>
          have hge : L.length ≤ m := by omega
          rw [List.take_of_length_le hge] at hrow
          obtain ⟨P, hP⟩ : ∃ P, P = picked pickHi a b := ⟨_, rfl⟩
          have hP2 : (L.map fun e => (e.1, pickHi (lev a e.1) (lev b e.1))) = P := by rw [hP, HLL.out]; rfl
          rw [hP2] at hrow
          have hPl : P.length ≤ 1000000 := by rw [← hP2, List.length_map]; omega
          have hPx : ∀ e ∈ P, e.1.length ≤ 140737488351232 := fun e h => by
            rw [← hP2] at h
            obtain ⟨x, hx, rfl⟩ := List.mem_map.1 h
            exact HTX.out x hx
          obtain ⟨A4, c4, hv4, h04, he4⟩ := hrow.ents
          have H9 := Lib.hid (make_any (c := c4) (E3.out.on hb) he4 hPx hPl)
          have HP := Lib.hid hP
          subst hv4
          clear hrow hb he4 hP hP2 hPx
          go_wp2_with fail
          refine H9.out.mono ?_
          rintro e w4 ⟨hb4, A5, c5, q, z, hq, rfl, hlab⟩
          have HQ := Lib.hid hq
          have HLAB := Lib.hid hlab
          have B4 : Hid (Below w.heap.size w w4) := B2.out.trans ((B3.out.trans ((HW.out.trans (hb4.mono hsz)).mono B3.out.size)).mono B2.out.size)
          clear hb4 hq hlab H9
          go_wp2_with fail
          go_ret2
          exact ⟨B4.out, A5, c5, q, z, .inr ⟨RA.out, RB.out, by rw [← HP.out]; exact HQ.out⟩, rfl, HLAB.out⟩
        | succ j =>
          have hm : m < L.length := by omega
          obtain ⟨⟨t, n⟩, hx⟩ : ∃ x, L[m]? = some x := ⟨_, List.getElem?_eq_getElem hm⟩
          obtain ⟨g, o, rfl, hlt, hcells⟩ := (HN.out.below hb) (by omega)
          obtain ⟨c1, c2⟩ := hcells m t n hx
          have HM := Lib.hid hmk
          have HX := Lib.hid hx
          obtain ⟨W0, hW0⟩ : ∃ W0, W0 = wr.alloc (.cells #[.string (str t), .int .i64 n] 33) := ⟨_, rfl⟩
          have hB0 : Below wr.heap.size wr W0 := by rw [hW0]; exact (Below.refl _ _).alloc (Nat.le_refl _) _
          have k0 : W0.cell? ⟨wr.heap.size, 0, none⟩ = some (.string (str t)) := by rw [hW0]; simp
          have hg0 : wr.heap.size < W0.heap.size := by rw [hW0]; simp
          have hB03 : Below w3.heap.size w3 W0 := HW.out.trans (hB0.mono hsz)
          have A4 := A3.out.on hB03
          have C4 := C3.out.on hB03
          obtain ⟨ya, hya⟩ : ∃ y, y = lev a t := ⟨_, rfl⟩
          obtain ⟨yb, hyb⟩ : ∃ y, y = lev b t := ⟨_, rfl⟩
          obtain ⟨z, hz⟩ : ∃ z, z = pickHi ya yb := ⟨_, rfl⟩
          have H15a : Hid (∀ W, Below W0.heap.size W0 W → Calls Tryz.prog 15 #[.slice A a.length c, .string (str t)] W fun e w' => e = .returned (.int .i64 ya) ∧ Below W0.heap.size W0 w') := fun W h => by
            rw [hya]
            exact (level_any (A4.on h).ents (by omega)).mono fun e w' h2 => ⟨h2.1, h.trans (h2.2.mono h.size)⟩
          have H15b : Hid (∀ W, Below W0.heap.size W0 W → Calls Tryz.prog 15 #[.slice B b.length d, .string (str t)] W fun e w' => e = .returned (.int .i64 yb) ∧ Below W0.heap.size W0 w') := fun W h => by
            rw [hyb]
            exact (level_any (C4.on h).ents (by omega)).mono fun e w' h2 => ⟨h2.1, h.trans (h2.2.mono h.size)⟩
          have HP : Hid (∀ W, Calls Tryz.prog 49 #[.int .i64 ya, .int .i64 yb] W fun e w' => e = .returned (.int .i64 z) ∧ W = w') := fun W => by
            rw [hz]
            exact max_any ya yb W
          have HZ : Hid (z = pickHi (lev a t) (lev b t)) := by rw [hz, hya, hyb]; rfl
          have HB03 := Lib.hid hB03
          have HW0 := Lib.hid hW0
          have R0 := Lib.hid (HROW.out.below hB0)
          clear hcells hx hmk hrow hb hB0 hB03 A4 C4 hya hyb hz hW0
          go_wp2_with fail
          rw [← HW0.out]
          go_region_held3 (fun W => W.cell? ⟨wr.heap.size, 0, none⟩ = some (.string (str t)))
            (first
              | go_keep
              | exact (hbB.cell (p := ⟨wr.heap.size, 0, none⟩) hg0).trans k0
              | exact (hbA.cell (p := ⟨wr.heap.size, 0, none⟩) hg0).trans k0)
            (first
              | (go_at_call 49; refine (HP.out _).mono ?_; rintro e W3 ⟨rfl, rfl⟩)
              | (go_at_call 15; refine (H15b.out _ hbA).mono ?_; rintro e W2 ⟨rfl, hbB⟩)
              | (go_at_call 15; refine (H15a.out _ (Below.refl _ _).drew).mono ?_; rintro e W1 ⟨rfl, hbA⟩))
          have k2 : W2.cell? ⟨wr.heap.size, 0, none⟩ = some (.string (str t)) := (hbB.cell (p := ⟨wr.heap.size, 0, none⟩) hg0).trans k0
          have B4 : Hid (Below w3.heap.size w3 W2) := HB03.out.trans (hbB.mono HB03.out.size)
          have R2 := Lib.hid (R0.out.below hbB)
          have hs4 := B4.out.size
          have hle : ((L.take m).map fun e => (e.1, pickHi (lev a e.1) (lev b e.1))).length + [(t, z)].length ≤ 1000001 := by simp; omega
          have hbase : w3.heap.size ≤ (W2.alloc (.cells #[.string (str t), .int .i64 z] 33)).heap.size := by simp; omega
          clear hbA hbB k0 c1 c2 H15a H15b HP
          go_wp2_with (first
            | (at_builtin; refine wpList_append_ents rfl _ _ 22 Tryz.underlying22 rfl w3.heap.size _ _ rfl (R2.out.alloc _) (W2.heap.size + 1) (some ⟨W2.heap.size, 0, none⟩) 1 [(t, z)] rfl (ents_one _ _ _) (fun h => by cases h) hle hbase ?_))
          intro v' w5 hown hb5
          have R3 := Lib.hid hown
          have B5 := Lib.hid ((B4.out.alloc hs4 _).trans hb5)
          clear hown hb5 k2
          go_wp2_with fail
          go_roundg j
          case measure => omega
          case rel =>
            refine ⟨m + 1, by have := HM.out; omega, by go_num, ?_, B5.out⟩
            have e := R3.out
            rw [List.take_add_one, HX.out, List.map_append]
            rw [HZ.out] at e
            simpa using e
    · rw [decide_eq_false hrb] at H14b
      have HD : Hid (¬ (RightL a ∧ RightL b)) := fun h => hrb h.2
      clear hrb
      go_wp2_with fail
      refine H14b.out.mono ?_
      rintro e w2 ⟨rfl, hb2⟩
      have B2 := Lib.hid (B1.out.trans (hb2.mono B1.out.size))
      clear hb2 H14b
      go_wp2_with fail
      go_ret2
      exact ⟨B2.out, none, 0, [], 21, .inl ⟨HD.out, rfl, rfl⟩, rfl, lab_nil _⟩
  · rw [decide_eq_false hra] at H14a
    have HD : Hid (¬ (RightL a ∧ RightL b)) := fun h => hra h.1
    clear hra
    go_enter Tryz.func48, Tryz.ntmps48
    go_wp2_with fail
    refine H14a.out.mono ?_
    rintro e w1 ⟨rfl, hb1⟩
    have B1 := Lib.hid hb1
    clear hb1 H14a
    go_wp2_with fail
    go_ret2
    exact ⟨B1.out, none, 0, [], 21, .inl ⟨HD.out, rfl, rfl⟩, rfl, lab_nil _⟩

set_option maxRecDepth 100000 in
theorem labelJoin_any {w : World} {A B : Option Addr} {c d : Nat} {a b : List Ent} (he : Env w) (ha : Lab w A c a) (hb : Lab w B d b) :
    Calls Tryz.prog 23 #[.slice A a.length c, .slice B b.length d] w (RetLab w (MixOut pickHi a b)) := by
  have H := Lib.hid (combineJoin_any he ha hb)
  clear he ha hb
  go_enter Tryz.func23, Tryz.ntmps23
  go_wp2_with fail
  refine H.out.mono ?_
  rintro e w1 ⟨hb1, A5, c5, q, z, hq, rfl, hlab⟩
  have B1 := Lib.hid hb1
  have HQ := Lib.hid hq
  have HLAB := Lib.hid hlab
  clear hb1 hq hlab H
  go_wp2_with fail
  go_ret2
  exact ⟨B1.out, A5, c5, q, z, HQ.out, rfl, HLAB.out⟩
end Go.Proofs.YtpokdihnimlgkaaGreatDoor
