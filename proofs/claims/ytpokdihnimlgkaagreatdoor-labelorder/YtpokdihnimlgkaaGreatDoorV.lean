/- The reference's Ahead and Compare. -/
import Derived.Test.YtpokdihnimlgkaaGreatDoorM
import Derived.Test.YtpokdihnimlgkaaGreatDoorK
namespace Go.Proofs.YtpokdihnimlgkaaGreatDoor
open Go.RowKit

theorem cmpN_lt {a b : Nat} (h : a < b) : cmpN a b = -1 := by
  have h1 := tot_cmpN.one a b
  have h2 := (tot_cmpN.eq a b).1
  unfold cmpN Lib.compareInt at *
  split at * <;> simp_all <;> omega
theorem cmpN_gt {a b : Nat} (h : b < a) : cmpN a b = 1 := by
  rw [tot_cmpN.neg b a, cmpN_lt h]
  rfl

/-- The two boxes, as they lie. -/
def AheadAt (w : World) (v1 v2 : Value) (n k : Nat) (W : World) : Prop :=
  Below w.heap.size w W ∧ W.cell? ⟨w.heap.size, 0, none⟩ = some v1 ∧ W.cell? ⟨w.heap.size, 1, none⟩ = some (.int .i64 (n : Int)) ∧ W.cell? ⟨w.heap.size + 1, 0, none⟩ = some v2 ∧ W.cell? ⟨w.heap.size + 1, 1, none⟩ = some (.int .i64 (k : Int))
theorem AheadAt.drewN {w : World} {v1 v2 : Value} {n k : Nat} {W : World} (h : AheadAt w v1 v2 n k W) (q : Nat) : AheadAt w v1 v2 n k (W.drewN q) := ⟨below_drewN h.1 q, h.2⟩
def AheadRel (w : World) (v1 v2 : Value) (n k : Nat) (p q : List Nat) (j : Nat) (i : Value) (wr : World) : Prop :=
  ∃ m, m + j = p.length ∧ m ≤ q.length ∧ i = .int .i64 (m : Int) ∧ (∀ k x y, k < m → p[k]? = some x → q[k]? = some y → cmpN x y = 0) ∧ AheadAt w v1 v2 n k wr

set_option maxRecDepth 100000 in
set_option maxHeartbeats 2000000 in
theorem ahead_any {w : World} {A1 A2 : Option Addr} {c1 c2 n k : Nat} {p q : List Nat} (h1 : Ints w w.heap.size A1 (ints p)) (h2 : Ints w w.heap.size A2 (ints q)) (hp : p.length ≤ 6) (hq : q.length ≤ 6) :
    Calls Tryz.prog 61 #[.agg #[.slice A1 p.length c1, .int .i64 (n : Int)], .agg #[.slice A2 q.length c2, .int .i64 (k : Int)]] w (RetB w (.bool (decide (cmpP (p, n) (q, k) = -1)))) := by
  have H1 := Lib.hid h1
  have H2 := Lib.hid h2
  obtain ⟨B, hB⟩ : ∃ B, B = decide (cmpP (p, n) (q, k) = -1) := ⟨_, rfl⟩
  rw [← hB]
  have HB : Hid (B = decide ((if lex cmpN p q = 0 then cmpN n k else lex cmpN p q) = -1)) := hB
  clear h1 h2 hB
  go_enter Tryz.func61, Tryz.ntmps61
  go_wp2_with fail
  go_loopg [5] p.length (fun j i wr => AheadRel w (.slice A1 p.length c1) (.slice A2 q.length c2) n k p q j i wr)
  case atStart => exact ⟨0, by simp, by simp, rfl, fun k x y hk => by omega, ((Below.refl _ _).alloc (Nat.le_refl _) _).alloc (by simp) _, by simp, by simp, by simp, by simp⟩
  case round =>
    obtain ⟨m, hmk, hmq, hi, hall, hat⟩ := hrel
    subst hi
    have HL := Lib.hid (lex_drop m p q hall (by omega) hmq)
    have HA := Lib.hid hall
    have HT := Lib.hid hat
    obtain ⟨_, r10, r11, r20, r21⟩ := hat
    clear hall
    by_cases ep : m = p.length
    · subst ep
      rw [List.drop_length] at HL
      by_cases eq : p.length = q.length
      · have HV : Hid (lex cmpN p q = 0) := by
          rw [Hid, ← HL.out, List.drop_eq_nil_of_le (by omega)]
          rfl
        have HW : Hid (B = decide (n < k)) := by
          rw [Hid, HB.out, HV.out, if_pos rfl]
          rcases Nat.lt_trichotomy n k with h | h | h
          · rw [cmpN_lt h]; simp [h]
          · rw [(tot_cmpN.eq n k).2 h]; simp [h]
          · rw [cmpN_gt h]; simp; omega
        go_wp2_with fail
        go_ret
        exact ⟨by rw [HW.out]; rfl, HT.out.1⟩
      · have HW : Hid (B = true) := by
          rw [Hid, HB.out, ← HL.out]
          cases hd : q.drop p.length with
          | nil => rw [List.drop_eq_nil_iff] at hd; omega
          | cons a r => rfl
        have q2 : ((p.length : Int) != (q.length : Int)) = true := by simp; omega
        go_wp2_with fail
        go_ret
        exact ⟨by rw [HW.out]; rfl, HT.out.1⟩
    · have hm : m < p.length := by omega
      obtain ⟨x, hx⟩ : ∃ x, p[m]? = some x := ⟨_, List.getElem?_eq_getElem hm⟩
      have dx : p.drop m = x :: p.drop (m + 1) := by
        obtain ⟨h1, h2⟩ := List.getElem?_eq_some_iff.1 hx
        rw [← h2]
        exact List.drop_eq_getElem_cons h1
      by_cases eq : m = q.length
      · have HW : Hid (B = false) := by
          rw [Hid, HB.out, ← HL.out, dx, show q.drop m = [] from List.drop_eq_nil_of_le (by omega)]
          rfl
        clear hx dx
        have q1 : ((q.length : Int) == (p.length : Int)) = false := by simp; omega
        have q2 : ((p.length : Int) != (q.length : Int)) = true := by simp; omega
        go_wp2_with fail
        go_ret
        exact ⟨by rw [HW.out]; rfl, HT.out.1⟩
      · have hm2 : m < q.length := by omega
        obtain ⟨y, hy⟩ : ∃ y, q[m]? = some y := ⟨_, List.getElem?_eq_getElem hm2⟩
        have dy : q.drop m = y :: q.drop (m + 1) := by
          obtain ⟨h1, h2⟩ := List.getElem?_eq_some_iff.1 hy
          rw [← h2]
          exact List.drop_eq_getElem_cons h1
        obtain ⟨b1, o1, rfl, hlt1, hc1⟩ := H1.out.2 (by rw [ints_length]; omega)
        obtain ⟨b2, o2, rfl, hlt2, hc2⟩ := H2.out.2 (by rw [ints_length]; omega)
        have x1 := (HT.out.1.cell (p := ⟨b1, o1 + m, none⟩) hlt1).trans (hc1 m x (ints_at hx))
        have x2 := (HT.out.1.cell (p := ⟨b2, o2 + m, none⟩) hlt2).trans (hc2 m y (ints_at hy))
        have HM := Lib.hid hmk
        have q1 : ((m : Int) == (p.length : Int)) = false := by simp; omega
        have q2 : ((m : Int) == (q.length : Int)) = false := by simp; omega
        rcases Nat.lt_trichotomy x y with hlt | he | hlt
        · have HW : Hid (B = true) := by
            rw [Hid, HB.out, ← HL.out, dx, dy]
            simp [lex, cmpN_lt hlt]
          clear hx hy dx dy hc1 hc2 hmk
          go_wp2_with fail
          go_quiet (fail)
          go_wp2_with fail
          go_quiet (fail)
          go_wp2_with fail
          go_ret
          exact ⟨by rw [HW.out]; rfl, below_drewN (below_drewN HT.out.1 _) _⟩
        · subst he
          have HA2 : Hid (∀ k a b, k < m + 1 → p[k]? = some a → q[k]? = some b → cmpN a b = 0) := fun k a b hk ha hb => by
            by_cases e : k = m
            · subst e
              rw [hx] at ha
              rw [hy] at hb
              cases ha
              cases hb
              exact tot_cmpN.refl _
            · exact HA.out k a b (by omega) ha hb
          clear hx hy dx dy hc1 hc2 hmk
          go_wp2_with fail
          go_quiet (fail)
          go_wp2_with fail
          go_roundg (p.length - (m + 1))
          case measure => have := HM.out; omega
          case rel => exact ⟨m + 1, by have := HM.out; omega, by omega, by go_num, HA2.out, HT.out.drewN _⟩
        · have HW : Hid (B = decide (x < y)) := by
            rw [Hid, HB.out, ← HL.out, dx, dy]
            simp [lex, cmpN_gt hlt]
            omega
          clear hx hy dx dy hc1 hc2 hmk
          go_wp2_with fail
          go_quiet (fail)
          go_wp2_with fail
          go_quiet (fail)
          go_wp2_with fail
          go_ret
          exact ⟨by rw [HW.out]; rfl, below_drewN (below_drewN HT.out.1 _) _⟩

theorem less_bytes : ∀ a b : List UInt8, Op.bytesLess a b = decide (Lib.compareBytes a b = -1)
  | [], [] => rfl
  | [], _ :: _ => rfl
  | _ :: _, [] => rfl
  | a :: r, b :: s => by
    unfold Op.bytesLess Lib.compareBytes
    rw [less_bytes r s]
    rcases Nat.lt_trichotomy a.toNat b.toNat with h | h | h
    · have h1 : a < b := h
      simp [h1]
    · have h1 : a = b := UInt8.toNat_inj.1 h
      subst h1
      have h2 : ¬ a < a := Nat.lt_irrefl a.toNat
      simp [h2]
    · have h1 : b < a := h
      have h2 : ¬ a < b := fun e => Nat.lt_asymm h e
      have h3 : ¬ a = b := fun e => by subst e; exact Nat.lt_irrefl _ h
      simp [h1, h2, h3]

/-- What the answer is. -/
theorem cmp_of {a b : List UInt8} {z : Int} (hz : z = cmpC a b) : (z = -1 ∧ ¬ a = b) ∨ (z = 0 ∧ a = b) ∨ (z = 1 ∧ ¬ a = b) := by
  have h := (tot_cmpC.eq a b)
  rw [← hz] at h
  rcases tot_cmpC.one a b with h1 | h1 | h1 <;> rw [← hz] at h1
  · exact .inl ⟨h1, fun e => by have := h.2 e; omega⟩
  · exact .inr (.inl ⟨h1, h.1 h1⟩)
  · exact .inr (.inr ⟨h1, fun e => by have := h.2 e; omega⟩)

set_option maxRecDepth 100000 in
set_option maxHeartbeats 2000000 in
theorem refCompare_any {w : World} {a b : List UInt8} (ha : a.length ≤ 100000) (hb : b.length ≤ 100000) :
    Calls Tryz.prog 37 #[.string (str a), .string (str b)] w (RetB w (.int .i64 (cmpC a b))) := by
  obtain ⟨z, hz⟩ : ∃ z, z = cmpC a b := ⟨_, rfl⟩
  obtain ⟨S, hS⟩ : ∃ S, S = str a := ⟨_, rfl⟩
  obtain ⟨T, hT⟩ : ∃ T, T = str b := ⟨_, rfl⟩
  obtain ⟨L, hL⟩ : ∃ L, L = Op.bytesLess S.toList T.toList := ⟨_, rfl⟩
  have HA : Hid (∀ W, Calls Tryz.prog 59 #[.string S] W (RetGet W a)) := fun W => by rw [hS]; exact get_any ha
  have HB : Hid (∀ W, Calls Tryz.prog 59 #[.string T] W (RetGet W b)) := fun W => by rw [hT]; exact get_any hb
  have hE : ∀ {c : Bool}, ((a = b) ↔ c = true) → (S.toList == T.toList) = c := fun {c} h => by
    rw [hS, hT]
    cases c with
    | true => exact str_same (h.2 rfl)
    | false => exact str_differs fun e => by have := h.1 e; cases this
  have HE : Hid (∀ {c : Bool}, ((a = b) ↔ c = true) → (S.toList == T.toList) = c) := @hE
  have hLb : L = decide (Lib.compareBytes a b = -1) := by
    rw [hL, hS, hT, ByteArray.toList_eq, ByteArray.toList_eq, str_list, str_list, less_bytes]
  have HL := Lib.hid hLb
  have hLs := hL.symm
  rw [← hz, ← hS, ← hT]
  have HC := Lib.hid (cmp_of hz)
  have HZ := Lib.hid hz
  clear hz hS hT hL hE hLb ha hb
  go_enter Tryz.func37, Tryz.ntmps37
  go_wp2_with fail
  refine (HA.out w).mono ?_
  rintro e w1 ⟨hb1, (⟨p, n, v, hc1, rfl, hrow1⟩ | ⟨hc1, rfl⟩)⟩
  · have C1 := Lib.hid hc1
    have hf1 := (catOf_iff.1 hc1).1
    obtain ⟨A1, cc1, rfl, hI1⟩ := hrow1.ints (fun u hu => by have := hf1.1.2 u hu; omega)
    have B1 := Lib.hid (hb1.alloc hb1.size (.cells #[.slice A1 p.length cc1, .int .i64 (n : Int)] 81))
    have I1 := Lib.hid hI1
    have hl1 : p.length ≤ 6 := hf1.1.1
    clear hb1 hc1 hrow1 hI1 hf1
    go_wp2_with fail
    refine (HB.out _).mono ?_
    rintro e w2 ⟨hb2, (⟨q, k, u, hc2, rfl, hrow2⟩ | ⟨hc2, rfl⟩)⟩
    · have hf2 := (catOf_iff.1 hc2).1
      obtain ⟨A2, cc2, rfl, hI2⟩ := hrow2.ints (fun u hu => by have := hf2.1.2 u hu; omega)
      have hl2 : q.length ≤ 6 := hf2.1.1
      have B2 := Lib.hid (B1.out.trans (hb2.mono B1.out.size))
      have HV : Hid (cmpC a b = cmpP (p, n) (q, k)) := by unfold Hid cmpC; rw [C1.out, hc2]
      have b12 : Below w1.heap.size w1 w2 := ((Below.refl _ _).alloc (Nat.le_refl _) _).trans (hb2.mono (by simp))
      have r0 : w2.cell? ⟨w1.heap.size, 0, none⟩ = some (.slice A1 p.length cc1) := (hb2.cell (p := ⟨w1.heap.size, 0, none⟩) (by simp)).trans (by simp)
      have r1 : w2.cell? ⟨w1.heap.size, 1, none⟩ = some (.int .i64 (n : Int)) := (hb2.cell (p := ⟨w1.heap.size, 1, none⟩) (by simp)).trans (by simp)
      have b23 : Below w2.heap.size w2 (w2.alloc (.cells #[.slice A2 q.length cc2, .int .i64 (k : Int)] 81)) := (Below.refl _ _).alloc (Nat.le_refl _) _
      have H31 := Lib.hid (ahead_any (c1 := cc1) (c2 := cc2) (n := n) (k := k) (((I1.out.below b12).more b12.size |>.below b23).more b23.size) ((hI2.below b23).more b23.size) hl1 hl2)
      have hg2 : w1.heap.size < w2.heap.size := World.block_lt_of_cell? w2 _ r1
      have r0' : (w2.alloc (.cells #[.slice A2 q.length cc2, .int .i64 (k : Int)] 81)).cell? ⟨w1.heap.size, 0, none⟩ = some (.slice A1 p.length cc1) := (b23.cell (p := ⟨w1.heap.size, 0, none⟩) hg2).trans r0
      have r1' : (w2.alloc (.cells #[.slice A2 q.length cc2, .int .i64 (k : Int)] 81)).cell? ⟨w1.heap.size, 1, none⟩ = some (.int .i64 (n : Int)) := (b23.cell (p := ⟨w1.heap.size, 1, none⟩) hg2).trans r1
      have B3 := Lib.hid (B2.out.alloc B2.out.size (.cells #[.slice A2 q.length cc2, .int .i64 (k : Int)] 81))
      obtain ⟨D, hD⟩ : ∃ D, D = decide (cmpP (p, n) (q, k) = -1) := ⟨_, rfl⟩
      rw [← hD] at H31
      have HD : Hid (D = decide (z = -1)) := by rw [Hid, hD, HZ.out, HV.out]
      clear hb2 hc2 hrow2 hI2 hf2 b12 r0 r1 b23 hD HV I1
      go_wp2_with fail
      refine H31.out.mono ?_
      rintro e w4 ⟨rfl, hb4⟩
      have B4 := Lib.hid (B3.out.trans (hb4.mono B3.out.size))
      clear hb4 H31 r0' r1'
      rcases HC.out with ⟨rfl, he⟩ | ⟨rfl, he⟩ | ⟨rfl, he⟩
      · have hD : D = true := HD.out
        subst hD
        go_wp2_with fail
        go_ret
        exact ⟨rfl, B4.out⟩
      · have hD : D = false := HD.out
        subst hD
        have hq := HE.out (c := true) (by simp [he])
        clear he
        go_wp2_with fail
        go_ret
        exact ⟨rfl, B4.out⟩
      · have hD : D = false := HD.out
        subst hD
        have hq := HE.out (c := false) (by simp [he])
        clear he
        go_wp2_with fail
        go_ret
        exact ⟨rfl, B4.out⟩
    · have HV : Hid (z = -1) := by rw [Hid, HZ.out]; unfold cmpC; rw [C1.out, hc2]
      have B2 := Lib.hid (B1.out.trans (hb2.mono B1.out.size))
      have B3 := Lib.hid (B2.out.alloc B2.out.size (.cells #[.slice none 0 0, .int .i64 0] 81))
      clear hb2 hc2
      go_wp2_with fail
      go_ret
      exact ⟨by rw [HV.out]; rfl, B3.out⟩
  · have C1 := Lib.hid hc1
    have B1 := Lib.hid (hb1.alloc hb1.size (.cells #[.slice none 0 0, .int .i64 0] 81))
    clear hb1 hc1
    go_wp2_with fail
    refine (HB.out _).mono ?_
    rintro e w2 ⟨hb2, (⟨q, k, u, hc2, rfl, hrow2⟩ | ⟨hc2, rfl⟩)⟩
    · have HV : Hid (z = 1) := by rw [Hid, HZ.out]; unfold cmpC; rw [C1.out, hc2]
      obtain ⟨A2, cc2, rfl⟩ := hrow2.slice
      have B2 := Lib.hid (B1.out.trans (hb2.mono B1.out.size))
      have B3 := Lib.hid (B2.out.alloc B2.out.size (.cells #[.slice A2 q.length cc2, .int .i64 (k : Int)] 81))
      have hq := HE.out (c := false) (by
        rcases HC.out with ⟨h, _⟩ | ⟨h, _⟩ | ⟨_, h⟩
        · rw [HV.out] at h; omega
        · rw [HV.out] at h; omega
        · simp [h])
      clear hb2 hc2 hrow2
      go_wp2_with fail
      go_ret
      exact ⟨by rw [HV.out]; rfl, B3.out⟩
    · have HV : Hid (z = Lib.compareBytes a b) := by rw [Hid, HZ.out]; unfold cmpC; rw [C1.out, hc2]
      have B2 := Lib.hid (B1.out.trans (hb2.mono B1.out.size))
      have B3 := Lib.hid (B2.out.alloc B2.out.size (.cells #[.slice none 0 0, .int .i64 0] 81))
      have HL2 : Hid (L = decide (z = -1)) := by rw [Hid, HV.out]; exact HL.out
      clear hb2 hc2
      rcases HC.out with ⟨rfl, he⟩ | ⟨rfl, he⟩ | ⟨rfl, he⟩
      · have hD : L = true := HL2.out
        subst hD
        clear he
        go_wp2_with fail
        go_ret
        exact ⟨rfl, B3.out⟩
      · have hD : L = false := HL2.out
        subst hD
        have hq := HE.out (c := true) (by simp [he])
        clear he
        go_wp2_with fail
        go_ret
        exact ⟨rfl, B3.out⟩
      · have hD : L = false := HL2.out
        subst hD
        have hq := HE.out (c := false) (by simp [he])
        clear he
        go_wp2_with fail
        go_ret
        exact ⟨rfl, B3.out⟩
end Go.Proofs.YtpokdihnimlgkaaGreatDoor
