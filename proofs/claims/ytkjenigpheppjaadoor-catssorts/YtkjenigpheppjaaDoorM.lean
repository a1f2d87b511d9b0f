/- slices.Compare at ints, cmp.Or at two ints, cats.Compare. -/
import Derived.Test.YtkjenigpheppjaaDoorL
import Derived.Test.YtkjenigpheppjaaDoorJ
namespace Go.Proofs.YtkjenigpheppjaaDoor
open Go.RowKit

theorem ints_at {p : List Nat} {k u : Nat} (h : p[k]? = some u) : (ints p)[k]? = some (u : Int) := by simp [ints, h]

def CmpRel (w : World) (p q : List Nat) (k : Nat) (i : Value) (wr : World) : Prop :=
  ∃ m, m + k = p.length ∧ m ≤ q.length ∧ i = .int .i64 (m : Int) ∧ (∀ k x y, k < m → p[k]? = some x → q[k]? = some y → cmpN x y = 0) ∧ w = wr

set_option maxRecDepth 100000 in
theorem slicesCompare_any {w : World} {A1 A2 : Option Addr} {c1 c2 B : Nat} {p q : List Nat} (h1 : Ints w B A1 (ints p)) (h2 : Ints w B A2 (ints q)) (hp : p.length ≤ 140737488351232) (hq : q.length ≤ 140737488351232) :
    Calls Tryd.prog 28 #[.slice A1 p.length c1, .slice A2 q.length c2] w fun e w' => e = .returned (.int .i64 (lex cmpN p q)) ∧ w = w' := by
  have H1 := Lib.hid h1
  have H2 := Lib.hid h2
  clear h1 h2
  go_enter Tryd.func28, Tryd.ntmps28
  go_wp2_with fail
  go_loopg [11] p.length (fun k i wr => CmpRel w p q k i wr)
  case atStart => exact ⟨0, by simp, by simp, rfl, fun k x y hk => by omega, rfl⟩
  case round =>
    obtain ⟨m, hmk, hmq, hi, hall, hw⟩ := hrel
    subst hi hw
    have HL := Lib.hid (lex_drop m p q hall (by omega) hmq)
    have HA := Lib.hid hall
    clear hall
    cases gk with
    | zero =>
      have hmp : m = p.length := by omega
      subst hmp
      rw [List.drop_length] at HL
      by_cases hlt : p.length < q.length
      · have HV : Hid (lex cmpN p q = -1) := by
          rw [Hid, ← HL.out]
          cases hd : q.drop p.length with
          | nil => rw [List.drop_eq_nil_iff] at hd; omega
          | cons a r => rfl
        go_wp2_with fail
        go_ret
        exact ⟨by rw [HV.out]; rfl, rfl⟩
      · have HV : Hid (lex cmpN p q = 0) := by
          rw [Hid, ← HL.out, List.drop_eq_nil_of_le (by omega)]
          rfl
        go_wp2_with fail
        go_ret
        exact ⟨by rw [HV.out]; rfl, rfl⟩
    | succ j =>
      have hm : m < p.length := by omega
      obtain ⟨x, hx⟩ : ∃ x, p[m]? = some x := ⟨_, List.getElem?_eq_getElem hm⟩
      obtain ⟨b, o, rfl, hlt, hcells⟩ := H1.out.2 (by rw [ints_length]; omega)
      have cx := hcells m x (ints_at hx)
      have dx : p.drop m = x :: p.drop (m + 1) := by
        obtain ⟨h1, h2⟩ := List.getElem?_eq_some_iff.1 hx
        rw [← h2]
        exact List.drop_eq_getElem_cons h1
      have HM := Lib.hid hmk
      clear hmk hcells
      by_cases hge : q.length ≤ m
      · have HV : Hid (lex cmpN p q = 1) := by
          rw [Hid, ← HL.out, dx, List.drop_eq_nil_of_le hge]
          rfl
        clear hx dx
        go_wp2_with fail
        go_ret
        exact ⟨by rw [HV.out]; rfl, rfl⟩
      · have hm2 : m < q.length := by omega
        obtain ⟨y, hy⟩ : ∃ y, q[m]? = some y := ⟨_, List.getElem?_eq_getElem hm2⟩
        obtain ⟨b2, o2, rfl, hlt2, hcells2⟩ := H2.out.2 (by rw [ints_length]; omega)
        have cy := hcells2 m y (ints_at hy)
        have dy : q.drop m = y :: q.drop (m + 1) := by
          obtain ⟨h1, h2⟩ := List.getElem?_eq_some_iff.1 hy
          rw [← h2]
          exact List.drop_eq_getElem_cons h1
        have H29 : Hid (Calls Tryd.prog 29 #[.int .i64 (x : Int), .int .i64 (y : Int)] w fun e w' => e = .returned (.int .i64 (cmpN x y)) ∧ w' = w) := Tryd.cmp_Compare_int (x : Int) (y : Int) w
        by_cases hz : cmpN x y = 0
        · rw [hz] at H29
          have HA2 : Hid (∀ k x y, k < m + 1 → p[k]? = some x → q[k]? = some y → cmpN x y = 0) := fun k a b hk ha hb => by
            by_cases e : k = m
            · subst e
              rw [hx] at ha
              rw [hy] at hb
              cases ha
              cases hb
              exact hz
            · exact HA.out k a b (by omega) ha hb
          clear hz hx hy dx dy hcells2 hge
          go_wp2_with (go_at_call 29; refine H29.out.mono ?_; rintro e w' ⟨rfl, rfl⟩)
          go_roundg j
          case measure => omega
          case rel => exact ⟨m + 1, by have := HM.out; omega, by omega, by go_num, HA2.out, rfl⟩
        · have HV : Hid (lex cmpN p q = cmpN x y) := by
            rw [Hid, ← HL.out, dx, dy]
            show (if cmpN x y = 0 then _ else _) = _
            rw [if_neg hz]
          obtain ⟨z, hze⟩ : ∃ z, z = cmpN x y := ⟨_, rfl⟩
          rw [← hze] at H29 HV hz
          have hz2 : (z != 0) = true := by simpa using hz
          clear hze hx hy dx dy hcells2 hge
          go_wp2_with (go_at_call 29; refine H29.out.mono ?_; rintro e w' ⟨rfl, rfl⟩)
          go_ret
          exact ⟨by rw [HV.out]; rfl, rfl⟩

def OrRel (w : World) (a b : Int) (k : Nat) (i : Value) (wr : World) : Prop :=
  ∃ m, m + k = 2 ∧ i = .int .i64 (m : Int) ∧ (0 < m → a = 0) ∧ (1 < m → b = 0) ∧ w = wr

set_option maxRecDepth 100000 in
theorem or_any {w : World} {g : Nat} {a b z : Int} (hz0 : z = if a = 0 then b else a) (c0 : w.cell? ⟨g, 0, none⟩ = some (.int .i64 a)) (c1 : w.cell? ⟨g, 1, none⟩ = some (.int .i64 b)) :
    Calls Tryd.prog 27 #[.slice (some ⟨g, 0, none⟩) 2 2] w fun e w' => e = .returned (.int .i64 z) ∧ w = w' := by
  have HZ0 := Lib.hid hz0
  clear hz0
  go_enter Tryd.func27, Tryd.ntmps27
  go_wp2_with fail
  go_loopg [8] 2 (fun k i wr => OrRel w a b k i wr)
  case atStart => exact ⟨0, rfl, rfl, fun h => by omega, fun h => by omega, rfl⟩
  case round =>
    obtain ⟨m, hmk, hi, ha, hb, hw⟩ := hrel
    subst hi hw
    match gk, m, hmk with
    | 0, 2, _ =>
      have HV : Hid (z = 0) := by rw [Hid, HZ0.out, if_pos (ha (by omega)), hb (by omega)]
      clear ha hb
      go_wp2_with fail
      go_ret
      exact ⟨by rw [HV.out]; rfl, rfl⟩
    | 1, 1, _ =>
      have ha0 := ha (by omega)
      have HV : Hid (z = b) := by rw [Hid, HZ0.out]; exact if_pos ha0
      have HA := Lib.hid ha0
      by_cases hz : b = 0
      · subst hz
        clear ha hb ha0
        go_wp2_with fail
        go_roundg 0
        case measure => omega
        case rel => exact ⟨2, rfl, rfl, fun _ => HA.out, fun _ => rfl, rfl⟩
      · have hz2 : (b != 0) = true := by simpa using hz
        clear ha hb ha0
        go_wp2_with fail
        go_ret
        exact ⟨by rw [HV.out]; rfl, rfl⟩
    | 2, 0, _ =>
      clear ha hb
      by_cases hz : a = 0
      · subst hz
        go_wp2_with fail
        go_roundg 1
        case measure => omega
        case rel => exact ⟨1, rfl, rfl, fun _ => rfl, fun h => by omega, rfl⟩
      · have hz2 : (a != 0) = true := by simpa using hz
        have HV : Hid (z = a) := by rw [Hid, HZ0.out]; exact if_neg hz
        go_wp2_with fail
        go_ret
        exact ⟨by rw [HV.out]; rfl, rfl⟩

set_option maxRecDepth 100000 in
theorem compare_more {w : World} {a b : List UInt8} (h : Env w) (ha : a.length ≤ 140737488351232) (hb : b.length ≤ 140737488351232) :
    Calls Tryd.prog 14 #[.string (str a), .string (str b)] w fun e w' => RetB w (.int .i64 (cmpC a b)) e w' ∧ ((catOf a).isSome = true ∧ (catOf b).isSome = true → w.drawn ≤ w'.drawn) := by
  have HE := Lib.hid h
  have H8 := Lib.hid (parse_any h ha)
  clear h
  go_enter Tryd.func14, Tryd.ntmps14
  go_wp2_with fail
  refine H8.out.mono ?_
  rintro e w1 ⟨hb1, hp1⟩
  have B1 := Lib.hid hb1
  have E1 := Lib.hid (HE.out.on hb1)
  have H8' := Lib.hid (parse_any E1.out hb)
  clear hb1 H8
  rcases hp1 with ⟨p, n, v, hc1, rfl, hrow1, hd1⟩ | ⟨hc1, rfl⟩
  · have C1 := Lib.hid hc1
    have R1 := Lib.hid hrow1
    have D1 := Lib.hid hd1
    clear hc1 hrow1 hd1
    go_wp2_with fail
    refine H8'.out.mono ?_
    rintro e w2 ⟨hb2, (⟨q, k, u, hc2, rfl, hrow2, hd2⟩ | ⟨hc2, rfl⟩)⟩
    · have B2 := Lib.hid (B1.out.trans (hb2.mono B1.out.size))
      have D2 : Hid ((catOf a).isSome = true ∧ (catOf b).isSome = true → w.drawn ≤ w2.drawn) := fun _ => Nat.le_trans D1.out hd2
      have HV : Hid (cmpC a b = cmpP (p, n) (q, k)) := by unfold Hid cmpC; rw [C1.out, hc2]
      have hf1 := (catOf_iff.1 C1.out).1
      have hf2 := (catOf_iff.1 hc2).1
      obtain ⟨A1, cc1, rfl, hI1⟩ := (R1.out.below hb2).ints (fun u hu => by have := hf1.1.2 u hu; omega)
      obtain ⟨A2, cc2, rfl, hI2⟩ := hrow2.ints (fun u hu => by have := hf2.1.2 u hu; omega)
      have hl1 : p.length ≤ 6 := hf1.1.1
      have hl2 : q.length ≤ 6 := hf2.1.1
      have H28 := Lib.hid (slicesCompare_any (c1 := cc1) (c2 := cc2) hI1 hI2 (by omega) (by omega))
      have H29 : Hid (Calls Tryd.prog 29 #[.int .i64 (n : Int), .int .i64 (k : Int)] w2 fun e w' => e = .returned (.int .i64 (cmpN n k)) ∧ w' = w2) := Tryd.cmp_Compare_int (n : Int) (k : Int) w2
      obtain ⟨x, hx⟩ : ∃ x, x = lex cmpN p q := ⟨_, rfl⟩
      obtain ⟨y, hy⟩ : ∃ y, y = cmpN n k := ⟨_, rfl⟩
      have HX : Hid (cmpC a b = if x = 0 then y else x) := by rw [Hid, HV.out, hx, hy]; rfl
      rw [← hx] at H28
      rw [← hy] at H29
      obtain ⟨z, hz⟩ : ∃ z, z = if x = 0 then y else x := ⟨_, rfl⟩
      have H27 : Hid (Calls Tryd.prog 27 #[.slice (some ⟨w2.heap.size, 0, none⟩) 2 2] (w2.alloc (.cells #[.int .i64 x, .int .i64 y] 3)) fun e w' => e = .returned (.int .i64 z) ∧ w2.alloc (.cells #[.int .i64 x, .int .i64 y] 3) = w') := or_any hz (by simp) (by simp)
      rw [← hz] at HX
      clear hx hy hz hI1 hI2 hf1 hf2 hc2 hrow2 hb2 R1 HV hd2
      go_wp2_with (first
        | (go_at_call 28; refine H28.out.mono ?_; rintro e w' ⟨rfl, rfl⟩)
        | (go_at_call 29; refine H29.out.mono ?_; rintro e w' ⟨rfl, rfl⟩)
        | (go_at_call 27; refine H27.out.mono ?_; rintro e w' ⟨rfl, rfl⟩))
      go_ret
      exact ⟨⟨by rw [HX.out]; rfl, B2.out.alloc B2.out.size _⟩, D2.out⟩
    · have B2 := Lib.hid (B1.out.trans (hb2.mono B1.out.size))
      have HV : Hid (cmpC a b = -1) := by unfold Hid cmpC; rw [C1.out, hc2]
      have HNo : Hid (¬ ((catOf a).isSome = true ∧ (catOf b).isSome = true)) := by rw [hc2]; exact fun h => by simp at h
      clear hc2 hb2 R1
      go_wp2_with fail
      go_ret
      exact ⟨⟨by rw [HV.out]; rfl, B2.out⟩, fun h => absurd h HNo.out⟩
  · have C1 := Lib.hid hc1
    clear hc1
    go_wp2_with fail
    refine H8'.out.mono ?_
    rintro e w2 ⟨hb2, (⟨q, k, u, hc2, rfl, hrow2, hd2⟩ | ⟨hc2, rfl⟩)⟩
    · have B2 := Lib.hid (B1.out.trans (hb2.mono B1.out.size))
      have HV : Hid (cmpC a b = 1) := by unfold Hid cmpC; rw [C1.out, hc2]
      have HNo : Hid (¬ ((catOf a).isSome = true ∧ (catOf b).isSome = true)) := by rw [C1.out]; exact fun h => by simp at h
      clear hc2 hb2 hrow2 hd2
      go_wp2_with fail
      go_ret
      exact ⟨⟨by rw [HV.out]; rfl, B2.out⟩, fun h => absurd h HNo.out⟩
    · have B2 := Lib.hid (B1.out.trans (hb2.mono B1.out.size))
      have HV : Hid (cmpC a b = Lib.compareBytes a b) := by unfold Hid cmpC; rw [C1.out, hc2]
      have HNo : Hid (¬ ((catOf a).isSome = true ∧ (catOf b).isSome = true)) := by rw [C1.out]; exact fun h => by simp at h
      have H30 := Lib.hid (Tryd.strings_Compare (str a) (str b) w2)
      rw [str_list, str_list] at H30
      clear hc2 hb2
      go_wp2_with (go_at_call 30; refine H30.out.mono ?_; rintro e w' ⟨rfl, rfl⟩)
      go_ret
      exact ⟨⟨by rw [HV.out]; rfl, B2.out⟩, fun h => absurd h HNo.out⟩
theorem compare_any {w : World} {a b : List UInt8} (h : Env w) (ha : a.length ≤ 140737488351232) (hb : b.length ≤ 140737488351232) :
    Calls Tryd.prog 14 #[.string (str a), .string (str b)] w (RetB w (.int .i64 (cmpC a b))) := (compare_more h ha hb).mono fun _ _ h => h.1
end Go.Proofs.YtkjenigpheppjaaDoor
