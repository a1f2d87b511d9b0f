/- cats.Parse, cats.Right, cats.isPath. -/
import Derived.Test.YtkjenigpheppjaaDoorCu
import Derived.Test.YtkjenigpheppjaaDoorE
namespace Go.Proofs.YtkjenigpheppjaaDoor
open Go.RowKit

/-- The two sides of a text around its first /. -/
def Sides (s a b : List UInt8) : Prop :=
  a.length ≤ s.length ∧ b.length ≤ s.length ∧ (∀ p n, s = catText p n → a = pathText p ∧ b = Lib.decDigits n) ∧ (∀ p n, a = pathText p → b = Lib.decDigits n → s = catText p n)
theorem sides_of (s : List UInt8) : ∃ a b fd, Lib.cut s [47] = (a, b, fd) ∧ Sides s a b := by
  by_cases h : 47 ∈ s
  · obtain ⟨a, b, rfl, hn⟩ := part_at s 47 h
    refine ⟨a, b, true, cut_one hn, by simp, by simp; omega, fun p n he => ?_, fun p n h1 h2 => by rw [h1, h2]; rfl⟩
    have h1 : Lib.cut (catText p n) [47] = (pathText p, Lib.decDigits n, true) := cut_one (path_no_slash p)
    rw [← he, cut_one hn] at h1
    simp only [Prod.mk.injEq] at h1
    exact ⟨h1.1, h1.2.1⟩
  · refine ⟨s, [], false, cut_no h, by simp, by simp, fun p n he => ?_, fun p n _ h2 => absurd h2.symm (dec_ne n)⟩
    exact absurd (by rw [he]; simp [catText]) h

theorem cut_any {w : World} {s a b : List UInt8} {fd : Bool} (hn : s.length ≤ 140737488351232) (hc : Lib.cut s [47] = (a, b, fd)) :
    Calls Tryd.prog 18 #[.string (str s), .string ⟨#[47]⟩] w fun e w' => RetB w (.tuple #[.string (str a), .string (str b), .bool fd]) e w' ∧ w.drawn ≤ w'.drawn := by
  refine (cutOne (str s) 47 (by rw [str_size]; exact hn) w).mono ?_
  rintro e w' ⟨rfl, n, rfl⟩
  refine ⟨⟨?_, below_drewN (Below.refl _ _) n⟩, Nat.le_add_right _ _⟩
  have e1 : Lib.cut (str s).data.toList [47] = (a, b, fd) := by rw [str_list]; exact hc
  rw [e1]
  rfl

/-- The category that a text is, and true; else nothing and false. -/
def RetCat (w : World) (s : List UInt8) (e : Ending) (w' : World) : Prop :=
  Below w.heap.size w w' ∧ ((∃ p n v, catOf s = some (p, n) ∧ e = .returned (.tuple #[v, .int .i64 (n : Int), .bool true]) ∧ NumRow w' w.heap.size v p ∧ w.drawn ≤ w'.drawn) ∨
    (catOf s = none ∧ e = .returned (.tuple #[.slice none 0 0, .int .i64 0, .bool false])))

set_option maxRecDepth 100000 in
theorem parse_any {w : World} {s : List UInt8} (h : Env w) (hn : s.length ≤ 140737488351232) : Calls Tryd.prog 8 #[.string (str s)] w (RetCat w s) := by
  obtain ⟨a, b, fd, hcut, ha, hb, hs1, hs2⟩ := sides_of s
  have HE := Lib.hid h
  have H18 := Lib.hid (cut_any (w := w) hn hcut)
  have HS1 := Lib.hid hs1
  have HS2 := Lib.hid hs2
  clear h hs1 hs2 hcut
  go_enter Tryd.func8, Tryd.ntmps8
  go_wp2_with fail
  refine H18.out.mono ?_
  rintro e w1 ⟨⟨rfl, hb1⟩, hd1⟩
  have E1 := Lib.hid (HE.out.on hb1)
  have B1 := Lib.hid hb1
  have D1 := Lib.hid hd1
  clear hb1 hd1
  go_wp2_with fail
  refine (parsePath_any E1.out (by omega)).mono ?_
  rintro e w2 ⟨hb2, hp⟩
  have E2 := Lib.hid (E1.out.on hb2)
  have B2 := Lib.hid (B1.out.trans (hb2.mono B1.out.size))
  have H20 : Hid (Calls Tryd.prog 20 #[.string (str b), .int .i64 65535] w2 (RetNum 65535 w2 b)) := parseNumber_any (most := 65535) E2.out (by omega) (by omega)
  clear hb2
  rcases hp with ⟨us, v, hf, hpt, rfl, hrow, hd2⟩ | ⟨hno, rfl⟩
  · have HR := Lib.hid (hrow.mono B1.out.size)
    have HF := Lib.hid hf
    have HP := Lib.hid hpt
    have D2 : Hid (w.drawn ≤ w2.drawn) := Nat.le_trans D1.out hd2
    clear hrow hf hpt hd2
    go_wp2_with fail
    refine H20.out.mono ?_
    rintro e w3 ⟨hb3, (⟨u, hu, rfl, hd3⟩ | ⟨hno, rfl⟩)⟩
    · have D3 : Hid (w.drawn ≤ w3.drawn) := Nat.le_trans D2.out hd3
      have HC : Hid (catOf s = some (us, u)) := catOf_iff.2 ⟨⟨HF.out, hu.1⟩, HS2.out us u HP.out hu.2⟩
      have B3 := Lib.hid (B2.out.trans (hb3.mono B2.out.size))
      have HR3 := Lib.hid (HR.out.below hb3)
      clear hb3 hu hd3
      go_wp2_with fail
      go_ret3
      exact ⟨B3.out, .inl ⟨us, u, v, HC.out, rfl, HR3.out, D3.out⟩⟩
    · have HC : Hid (catOf s = none) := catOf_none fun p n hf he => hno n ⟨hf.2, (HS1.out p n he).2⟩
      have B3 := Lib.hid (B2.out.trans (hb3.mono B2.out.size))
      clear hb3 hno
      go_wp2_with fail
      go_ret3
      exact ⟨B3.out, .inr ⟨HC.out, rfl⟩⟩
  · have HC : Hid (catOf s = none) := catOf_none fun p n hf he => hno p hf.1 (HS1.out p n he).1
    clear hno
    go_wp2_with fail
    refine H20.out.mono ?_
    rintro e w3 ⟨hb3, (⟨u, hu, rfl, _⟩ | ⟨hno, rfl⟩)⟩
    · have B3 := Lib.hid (B2.out.trans (hb3.mono B2.out.size))
      clear hb3 hu
      go_wp2_with fail
      go_ret3
      exact ⟨B3.out, .inr ⟨HC.out, rfl⟩⟩
    · have B3 := Lib.hid (B2.out.trans (hb3.mono B2.out.size))
      clear hb3 hno
      go_wp2_with fail
      go_ret3
      exact ⟨B3.out, .inr ⟨HC.out, rfl⟩⟩

theorem right_any {w : World} {s : List UInt8} (h : Env w) (hn : s.length ≤ 140737488351232) : Calls Tryd.prog 10 #[.string (str s)] w (RetB w (.bool (catOf s).isSome)) := by
  have H8 := Lib.hid (parse_any h hn)
  clear h
  go_enter Tryd.func10, Tryd.ntmps10
  go_wp2_with fail
  refine H8.out.mono ?_
  rintro e w1 ⟨hb1, (⟨p, n, v, hc, rfl, _⟩ | ⟨hc, rfl⟩)⟩
  · have B1 := Lib.hid hb1
    have HC := Lib.hid hc
    clear hb1 hc
    go_wp2_with fail
    go_ret
    exact ⟨by rw [HC.out]; rfl, B1.out⟩
  · have B1 := Lib.hid hb1
    have HC := Lib.hid hc
    clear hb1 hc
    go_wp2_with fail
    go_ret
    exact ⟨by rw [HC.out]; rfl, B1.out⟩

/-- A slice of ints, as it lies below block B. -/
def Ints (w : World) (B : Nat) (A : Option Addr) (zs : List Int) : Prop :=
  (∀ z ∈ zs, -9223372036854775808 ≤ z ∧ z ≤ 9223372036854775807) ∧ (0 < zs.length → ∃ b o, A = some ⟨b, o, none⟩ ∧ b < B ∧ ∀ (k : Nat) (z : Int), zs[k]? = some z → w.cell? ⟨b, o + k, none⟩ = some (.int .i64 z))
theorem Ints.below {w w' : World} {B : Nat} {A : Option Addr} {zs : List Int} (h : Ints w B A zs) (hb : Below B w w') : Ints w' B A zs :=
  ⟨h.1, fun hp => by
    obtain ⟨b, o, hA, hlt, hc⟩ := h.2 hp
    exact ⟨b, o, hA, hlt, fun k c hk => (hb.cell (p := ⟨b, o + k, none⟩) hlt).trans (hc k c hk)⟩⟩
theorem Ints.more {w : World} {B B' : Nat} {A : Option Addr} {zs : List Int} (h : Ints w B A zs) (hB : B ≤ B') : Ints w B' A zs :=
  ⟨h.1, fun hp => by
    obtain ⟨b, o, hA, hlt, hc⟩ := h.2 hp
    exact ⟨b, o, hA, by omega, hc⟩⟩

/-- May these numbers be a path? -/
def PathOk (zs : List Int) : Prop := zs.length ≤ 6 ∧ ∀ z ∈ zs, 0 ≤ z ∧ z ≤ 1048576
instance (zs : List Int) : Decidable (PathOk zs) := inferInstanceAs (Decidable (_ ∧ _))

def OkRel (w : World) (zs : List Int) (k : Nat) (i : Value) (wr : World) : Prop :=
  ∃ m, m + k = zs.length ∧ i = .int .i64 (m : Int) ∧ (∀ z ∈ zs.take m, 0 ≤ z ∧ z ≤ 1048576) ∧ w = wr

set_option maxRecDepth 100000 in
theorem isPath_any {w : World} {A : Option Addr} {c : Nat} {zs : List Int} (h : Ints w w.heap.size A zs) (hn : zs.length ≤ 1000000) :
    Calls Tryd.prog 21 #[.slice A zs.length c] w fun e w' => e = .returned (.bool (decide (PathOk zs))) ∧ w = w' := by
  have HI := Lib.hid h
  clear h
  by_cases h6 : 6 < zs.length
  · have HD : Hid (decide (PathOk zs) = false) := decide_eq_false fun h => by have := h.1; omega
    go_enter Tryd.func21, Tryd.ntmps21
    go_wp2_with fail
    go_ret
    exact ⟨by rw [HD.out]; rfl, rfl⟩
  · have h6' : zs.length ≤ 6 := by omega
    clear h6
    go_enter Tryd.func21, Tryd.ntmps21
    go_wp2_with fail
    go_loopg [10] zs.length (fun k i wr => OkRel w zs k i wr)
    case atStart => exact ⟨0, by simp, rfl, by simp, rfl⟩
    case round =>
      obtain ⟨m, hmk, hi, hall, hw⟩ := hrel
      subst hi hw
      have HA := Lib.hid hall
      clear hall
      cases gk with
      | zero =>
        have hge : zs.length ≤ m := by omega
        have HD : Hid (decide (PathOk zs) = true) := decide_eq_true ⟨h6', by have := HA.out; rwa [List.take_of_length_le hge] at this⟩
        go_wp2_with fail
        go_ret
        exact ⟨by rw [HD.out]; rfl, rfl⟩
      | succ j =>
        have hm : m < zs.length := by omega
        obtain ⟨z, hz⟩ : ∃ z, zs[m]? = some z := ⟨_, List.getElem?_eq_getElem hm⟩
        obtain ⟨b, o, rfl, hlt, hcells⟩ := HI.out.2 (by omega)
        have cx := hcells m z hz
        have H22 := Lib.hid (inRange_any z 1048576 w)
        have HM := Lib.hid hmk
        have HT : Hid (0 ≤ z ∧ z ≤ 1048576 → ∀ x ∈ zs.take (m + 1), 0 ≤ x ∧ x ≤ 1048576) := fun hzr x hx => by
          rw [List.take_add_one, hz] at hx
          rcases List.mem_append.1 hx with h | h
          · exact HA.out x h
          · simp at h
            subst h
            exact hzr
        have HZ := Lib.hid (List.mem_of_getElem? hz)
        clear hmk hz hcells
        by_cases hr : 0 ≤ z ∧ z ≤ 1048576
        · rw [decide_eq_true hr] at H22
          have HR := Lib.hid hr
          clear hr
          go_wp2_with (go_at_call 22; refine H22.out.mono ?_; rintro e w' ⟨rfl, rfl⟩)
          go_roundg j
          case measure => omega
          case rel => exact ⟨m + 1, by have := HM.out; omega, by go_num, HT.out HR.out, rfl⟩
        · rw [decide_eq_false hr] at H22
          have HD : Hid (decide (PathOk zs) = false) := decide_eq_false fun h => hr (h.2 z HZ.out)
          clear hr
          go_wp2_with (go_at_call 22; refine H22.out.mono ?_; rintro e w' ⟨rfl, rfl⟩)
          go_ret
          exact ⟨by rw [HD.out]; rfl, rfl⟩
end Go.Proofs.YtkjenigpheppjaaDoor
