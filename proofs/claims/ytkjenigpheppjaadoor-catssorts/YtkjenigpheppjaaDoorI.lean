/- The reference: Fits, Text. -/
import Derived.Test.YtkjenigpheppjaaDoorH
namespace Go.Proofs.YtkjenigpheppjaaDoor
open Go.RowKit

/-- May there be such a category? -/
def CatOk (zs : List Int) (n : Int) : Prop := PathOk zs ∧ 0 ≤ n ∧ n ≤ 65535
instance (zs : List Int) (n : Int) : Decidable (CatOk zs n) := inferInstanceAs (Decidable (_ ∧ _))

def FitRel (w : World) (zs : List Int) (k : Nat) (i : Value) (wr : World) : Prop :=
  ∃ m, m + k = zs.length ∧ i = .int .i64 (m : Int) ∧ (∀ z ∈ zs.take m, 0 ≤ z ∧ z ≤ 1048576) ∧ Below w.heap.size w wr

set_option maxRecDepth 100000 in
theorem fits_any {w : World} {A : Option Addr} {c : Nat} {zs : List Int} {n : Int} (h : Ints w w.heap.size A zs) (hn : zs.length ≤ 1000000) :
    Calls Tryd.prog 12 #[.agg #[.slice A zs.length c, .int .i64 n]] w (RetB w (.bool (decide (CatOk zs n)))) := by
  have HI := Lib.hid h
  have BA : Hid (Below w.heap.size w (w.alloc (.cells #[.slice A zs.length c, .int .i64 n] 27))) := (Below.refl _ _).alloc (Nat.le_refl _) _
  clear h
  by_cases hn0 : n < 0
  · have HD : Hid (decide (CatOk zs n) = false) := decide_eq_false fun h => by have := h.2.1; omega
    go_enter Tryd.func12, Tryd.ntmps12
    go_wp2_with fail
    go_ret
    exact ⟨by rw [HD.out]; rfl, BA.out⟩
  by_cases hn1 : 65535 < n
  · have HD : Hid (decide (CatOk zs n) = false) := decide_eq_false fun h => by have := h.2.2; omega
    go_enter Tryd.func12, Tryd.ntmps12
    go_wp2_with fail
    go_ret
    exact ⟨by rw [HD.out]; rfl, BA.out⟩
  by_cases h6 : 6 < zs.length
  · have HD : Hid (decide (CatOk zs n) = false) := decide_eq_false fun h => by have := h.1.1; omega
    go_enter Tryd.func12, Tryd.ntmps12
    go_wp2_with fail
    go_ret
    exact ⟨by rw [HD.out]; rfl, BA.out⟩
  have h6' : zs.length ≤ 6 := by omega
  have HR : Hid (0 ≤ n ∧ n ≤ 65535) := by unfold Hid; omega
  go_enter Tryd.func12, Tryd.ntmps12
  go_wp2_with fail
  go_loopg [22] zs.length (fun k i wr => FitRel w zs k i wr)
  case atStart => exact ⟨0, by simp, rfl, by simp, BA.out⟩
  case round =>
    obtain ⟨m, hmk, hi, hall, hb⟩ := hrel
    subst hi
    have HA := Lib.hid hall
    have HB := Lib.hid hb
    clear hall
    cases gk with
    | zero =>
      have hge : zs.length ≤ m := by omega
      have HD : Hid (decide (CatOk zs n) = true) := decide_eq_true ⟨⟨h6', by have := HA.out; rwa [List.take_of_length_le hge] at this⟩, HR.out⟩
      clear hb
      go_wp2_with fail
      go_ret
      exact ⟨by rw [HD.out]; rfl, HB.out⟩
    | succ j =>
      have hm : m < zs.length := by omega
      obtain ⟨z, hz⟩ : ∃ z, zs[m]? = some z := ⟨_, List.getElem?_eq_getElem hm⟩
      obtain ⟨b, o, rfl, hlt, hcells⟩ := HI.out.2 (by omega)
      have cx := (hb.cell (p := ⟨b, o + m, none⟩) hlt).trans (hcells m z hz)
      have HM := Lib.hid hmk
      have HT : Hid (0 ≤ z ∧ z ≤ 1048576 → ∀ x ∈ zs.take (m + 1), 0 ≤ x ∧ x ≤ 1048576) := fun hzr x hx => by
        rw [List.take_add_one, hz] at hx
        rcases List.mem_append.1 hx with h | h
        · exact HA.out x h
        · simp at h
          subst h
          exact hzr
      have HZ := Lib.hid (List.mem_of_getElem? hz)
      clear hmk hz hcells hb
      by_cases z0 : z < 0
      · have HD : Hid (decide (CatOk zs n) = false) := decide_eq_false fun h => by have := h.1.2 z HZ.out; omega
        go_wp2_with fail
        go_ret
        exact ⟨by rw [HD.out]; rfl, HB.out⟩
      · by_cases z1 : 1048576 < z
        · have HD : Hid (decide (CatOk zs n) = false) := decide_eq_false fun h => by have := h.1.2 z HZ.out; omega
          go_wp2_with fail
          go_ret
          exact ⟨by rw [HD.out]; rfl, HB.out⟩
        · have HR2 : Hid (0 ≤ z ∧ z ≤ 1048576) := by unfold Hid; omega
          go_wp2_with fail
          go_roundg j
          case measure => omega
          case rel => exact ⟨m + 1, by have := HM.out; omega, by go_num, HT.out HR2.out, HB.out⟩

def TextRel (zs : List Int) (W0 : World) (k : Nat) (s i : Value) (wr : World) : Prop :=
  ∃ m, m + k = zs.length ∧ i = .int .i64 (m : Int) ∧ s = .string (str (pathText (nats (zs.take m)))) ∧ W0 = wr

set_option maxRecDepth 100000 in
theorem text_any {w : World} {A : Option Addr} {c : Nat} {zs : List Int} {n : Int} (h : Ints w w.heap.size A zs) (hp : CatOk zs n) :
    Calls Tryd.prog 13 #[.agg #[.slice A zs.length c, .int .i64 n]] w (RetB w (.string (str (catText (nats zs) n.toNat)))) := by
  have BA : Hid (Below w.heap.size w (w.alloc (.cells #[.slice A zs.length c, .int .i64 n] 27))) := (Below.refl _ _).alloc (Nat.le_refl _) _
  have HI := Lib.hid (h.below BA.out)
  have HP := Lib.hid hp
  have hlen := hp.1.1
  obtain ⟨k, hk⟩ := Int.eq_ofNat_of_zero_le hp.2.1
  have hk1 : k ≤ 65535 := by have := hp.2.2; omega
  subst hk
  rw [Int.toNat_natCast]
  have HL := Lib.hid (dec_len7 (u := k) (by omega))
  clear h hp
  go_enter Tryd.func13, Tryd.ntmps13
  go_wp2_with fail
  obtain ⟨W0, hW0⟩ : ∃ W0, W0 = w.alloc (.cells #[.slice A zs.length c, .int .i64 (k : Int)] 27) := ⟨_, rfl⟩
  have c1 : W0.cell? ⟨w.heap.size, 1, none⟩ = some (.int .i64 (k : Int)) := by rw [hW0]; simp
  rw [← hW0] at BA HI ⊢
  clear hW0
  go_loopg [3, 9] zs.length (fun k s i wr => TextRel zs W0 k s i wr)
  case atStart => exact ⟨0, by simp, rfl, rfl, rfl⟩
  case round =>
    obtain ⟨m, hmk, hi, hs, hw⟩ := hrel
    subst hi hs hw
    have hl48 := ok_nats HP.out.1 m
    cases gk with
    | zero =>
      have hge : zs.length ≤ m := by omega
      have HT : Hid (zs.take m = zs) := List.take_of_length_le hge
      obtain ⟨l, hle⟩ : ∃ l, l = pathText (nats (zs.take m)) := ⟨_, rfl⟩
      have HX : Hid (l ++ [47] ++ Lib.decDigits k = catText (nats zs) k) := by rw [Hid, hle, HT.out]; simp [catText]
      rw [← hle] at hl48 ⊢
      clear hle hmk
      have q1 : ∀ W, (Op.stringOp .add (str l) ⟨#[47]⟩).run Tryd.prog W = .ok (.string (str (l ++ [47]))) W := str_add l [47] (by simp; omega)
      have q2 := str_add (l ++ [47]) (Lib.decDigits k) (by have := HL.out; simp; omega)
      rw [HX.out] at q2
      have H26 := Lib.hid (num26_any (u := k) (by omega) W0)
      obtain ⟨s1, h1⟩ : ∃ s1, s1 = str l := ⟨_, rfl⟩
      obtain ⟨s2, h2⟩ : ∃ s2, s2 = str (l ++ [47]) := ⟨_, rfl⟩
      obtain ⟨s3, h3⟩ : ∃ s3, s3 = str (Lib.decDigits k) := ⟨_, rfl⟩
      rw [← h1, ← h2] at q1
      rw [← h2, ← h3] at q2
      rw [← h3] at H26
      rw [← h1]
      clear h1 h2 h3
      go_wp2_with (go_at_call 26; refine H26.out.mono ?_; rintro e w' ⟨rfl, rfl⟩)
      go_ret
      exact ⟨rfl, BA.out⟩
    | succ j =>
      have hm : m < zs.length := by omega
      obtain ⟨z, hz⟩ : ∃ z, zs[m]? = some z := ⟨_, List.getElem?_eq_getElem hm⟩
      obtain ⟨b, o, rfl, hlt, hcells⟩ := HI.out.2 (by omega)
      have cx := hcells m z hz
      have hzr := HP.out.1.2 z (List.mem_of_getElem? hz)
      obtain ⟨u, hu⟩ := Int.eq_ofNat_of_zero_le hzr.1
      subst hu
      have hu1 : u ≤ 1048576 := by omega
      have HL2 := Lib.hid (dec_len7 hu1)
      have HM := Lib.hid hmk
      have HS := Lib.hid (nats_snoc hz)
      rw [Int.toNat_natCast] at HS
      have H26 := Lib.hid (num26_any hu1 W0)
      by_cases h0 : m = 0
      · subst h0
        have HT : Hid (pathText (nats (zs.take (0 + 1))) = Lib.decDigits u) := by rw [Hid, HS.out]; rfl
        have cx0 : W0.cell? ⟨b, o, none⟩ = some (.int .i64 (u : Int)) := by simpa using cx
        have q1 : ∀ W, (Op.stringOp .add (str (pathText (nats (zs.take 0)))) (str (Lib.decDigits u))).run Tryd.prog W = .ok (.string (str (Lib.decDigits u))) W := str_add [] (Lib.decDigits u) (by have := HL2.out; simp; omega)
        obtain ⟨s1, h1⟩ : ∃ s1, s1 = str (pathText (nats (zs.take 0))) := ⟨_, rfl⟩
        obtain ⟨s2, h2⟩ : ∃ s2, s2 = str (Lib.decDigits u) := ⟨_, rfl⟩
        rw [← h1, ← h2] at q1
        rw [← h2] at H26
        rw [← h1]
        have HX := Lib.hid h2
        clear h1 h2 hz hmk hcells HS cx
        go_wp2_with (go_at_call 26; refine H26.out.mono ?_; rintro e w' ⟨rfl, rfl⟩)
        go_roundg j
        case measure => omega
        case rel => exact ⟨0 + 1, by have := HM.out; omega, by go_num, by rw [HT.out, HX.out], rfl⟩
      · have hpos : 0 < m := by omega
        obtain ⟨l, hle⟩ : ∃ l, l = pathText (nats (zs.take m)) := ⟨_, rfl⟩
        have HT : Hid (pathText (nats (zs.take (m + 1))) = l ++ [46] ++ Lib.decDigits u) := by
          rw [Hid, HS.out, path_snoc (by
            intro e
            have h2 : (nats (zs.take m)).length = m := by simp [nats]; omega
            rw [e] at h2
            simp at h2
            omega), hle]
          simp
        rw [← hle] at hl48 ⊢
        clear hle hz hmk hcells HS h0
        have q1 : ∀ W, (Op.stringOp .add (str l) ⟨#[46]⟩).run Tryd.prog W = .ok (.string (str (l ++ [46]))) W := str_add l [46] (by simp; omega)
        have q2 := str_add (l ++ [46]) (Lib.decDigits u) (by have := HL2.out; simp; omega)
        obtain ⟨s1, h1⟩ : ∃ s1, s1 = str l := ⟨_, rfl⟩
        obtain ⟨s2, h2⟩ : ∃ s2, s2 = str (l ++ [46]) := ⟨_, rfl⟩
        obtain ⟨s3, h3⟩ : ∃ s3, s3 = str (Lib.decDigits u) := ⟨_, rfl⟩
        obtain ⟨s4, h4⟩ : ∃ s4, s4 = str (l ++ [46] ++ Lib.decDigits u) := ⟨_, rfl⟩
        rw [← h1, ← h2] at q1
        rw [← h2, ← h3, ← h4] at q2
        rw [← h3] at H26
        rw [← h1]
        have HX := Lib.hid h4
        clear h1 h2 h3 h4
        go_wp2_with (go_at_call 26; refine H26.out.mono ?_; rintro e w' ⟨rfl, rfl⟩)
        go_roundg j
        case measure => omega
        case rel => exact ⟨m + 1, by have := HM.out; omega, by go_num, by rw [HT.out, HX.out], rfl⟩
end Go.Proofs.YtkjenigpheppjaaDoor
