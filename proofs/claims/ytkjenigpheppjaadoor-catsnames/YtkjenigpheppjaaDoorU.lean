/- CatsNames walked: it answers true. -/
import Derived.Test.YtkjenigpheppjaaDoorT
import Derived.Test.YtkjenigpheppjaaDoorK
namespace Go.Proofs.YtkjenigpheppjaaDoor
open Go.RowKit

def pOf (s : List UInt8) : List Nat := match catOf s with
  | some x => x.1
  | none => []
def nOf (s : List UInt8) : Nat := match catOf s with
  | some x => x.2
  | none => 0
theorem pOf_len (s : List UInt8) : (pOf s).length ≤ 6 := by
  unfold pOf
  cases h : catOf s with
  | none => simp
  | some x => exact (catOf_iff.1 h).1.1.1
theorem parse_parts {w : World} {s : List UInt8} (h : Env w) (hn : s.length ≤ 100000) : Calls Tryd.prog 8 #[.string (str s)] w fun e w' => Below w.heap.size w w' ∧ ∃ A c, e = .returned (.tuple #[.slice A (pOf s).length c, .int .i64 (nOf s : Int), .bool (catOf s).isSome]) ∧ Ints w' w'.heap.size A (ints (pOf s)) := by
  refine (parse_any h hn).mono ?_
  rintro e w' ⟨hb, (⟨p, n, v, hc, rfl, hrow, _⟩ | ⟨hc, rfl⟩)⟩
  · have hf := (catOf_iff.1 hc).1
    obtain ⟨A, c, rfl, hI⟩ := hrow.ints (fun u hu => by have := hf.1.2 u hu; omega)
    refine ⟨hb, A, c, ?_, ?_⟩
    · unfold pOf nOf; rw [hc]; rfl
    · unfold pOf; rw [hc]; exact hI
  · refine ⟨hb, none, 0, ?_, ?_⟩
    · unfold pOf nOf; rw [hc]; rfl
    · unfold pOf; rw [hc]; exact ⟨by simp [ints], fun h => by simp [ints] at h⟩
theorem get_parts {w : World} {s : List UInt8} (hn : s.length ≤ 100000) : Calls Tryd.prog 9 #[.string (str s)] w fun e w' => Below w.heap.size w w' ∧ ∃ A c, e = .returned (.tuple #[.agg #[.slice A (pOf s).length c, .int .i64 (nOf s : Int)], .bool (catOf s).isSome]) ∧ Ints w' w'.heap.size A (ints (pOf s)) := by
  refine (get_any hn).mono ?_
  rintro e w' ⟨hb, (⟨p, n, v, hc, rfl, hrow⟩ | ⟨hc, rfl⟩)⟩
  · have hf := (catOf_iff.1 hc).1
    obtain ⟨A, c, rfl, hI⟩ := hrow.ints (fun u hu => by have := hf.1.2 u hu; omega)
    refine ⟨hb, A, c, ?_, ?_⟩
    · unfold pOf nOf; rw [hc]; rfl
    · unfold pOf; rw [hc]; exact hI
  · refine ⟨hb, none, 0, ?_, ?_⟩
    · unfold pOf nOf; rw [hc]; rfl
    · unfold pOf; rw [hc]; exact ⟨by simp [ints], fun h => by simp [ints] at h⟩

def NamesRel (w W : World) (p : List Nat) (k : Nat) (i : Value) (wr : World) : Prop :=
  ∃ m, m + k = p.length ∧ i = .int .i64 (m : Int) ∧ Below w.heap.size w wr ∧ Below W.heap.size W wr

set_option maxRecDepth 100000 in
set_option maxHeartbeats 4000000 in
theorem names_any {w : World} {s : List UInt8} {A : Option Addr} {c : Nat} {zs : List Int} {n : Int} (he : Env w) (hI : Ints w w.heap.size A zs) (hz : zs.length ≤ maxLen) (hsl : s.length ≤ maxLen) :
    Calls Tryd.prog 3 #[.string (str s), .slice A zs.length c, .int .i64 n] w (Fine w) := by
  have HE := Lib.hid he
  have HI := Lib.hid hI
  unfold maxLen at hz hsl
  clear he hI
  obtain ⟨S, hS⟩ : ∃ S, S = str s := ⟨_, rfl⟩
  have hsz : S.size = s.length := by rw [hS, str_size]
  have H10 : Hid (∀ W, Env W → s.length ≤ 300 → Calls Tryd.prog 10 #[.string S] W (RetB W (.bool (catOf s).isSome))) := fun W h hl => by rw [hS]; exact right_any h (by omega)
  have H8 : Hid (∀ W, Env W → s.length ≤ 300 → Calls Tryd.prog 8 #[.string S] W fun e w' => Below W.heap.size W w' ∧ ∃ A c, e = .returned (.tuple #[.slice A (pOf s).length c, .int .i64 (nOf s : Int), .bool (catOf s).isSome]) ∧ Ints w' w'.heap.size A (ints (pOf s))) := fun W h hl => by rw [hS]; exact parse_parts h (by omega)
  have H9 : Hid (∀ W, s.length ≤ 300 → Calls Tryd.prog 9 #[.string S] W fun e w' => Below W.heap.size W w' ∧ ∃ A c, e = .returned (.tuple #[.agg #[.slice A (pOf s).length c, .int .i64 (nOf s : Int)], .bool (catOf s).isSome]) ∧ Ints w' w'.heap.size A (ints (pOf s))) := fun W hl => by rw [hS]; exact get_parts (by omega)
  have hp6 := pOf_len s
  obtain ⟨p, hp⟩ : ∃ p, p = pOf s := ⟨_, rfl⟩
  obtain ⟨k0, hk0⟩ : ∃ k0, k0 = nOf s := ⟨_, rfl⟩
  obtain ⟨bo, hbo⟩ : ∃ bo, bo = (catOf s).isSome := ⟨_, rfl⟩
  rw [← hp, ← hk0, ← hbo] at H8 H9
  rw [← hbo] at H10
  rw [← hp] at hp6
  rw [← hS]
  clear hS hp hk0 hbo
  go_enter Tryd.func3, Tryd.ntmps3
  go_wp2_with fail
  refine (first_true HE.out).mono ?_
  rintro e w1 ⟨rfl, hb1⟩
  have B1 := Lib.hid hb1
  have E1 := Lib.hid (HE.out.on hb1)
  clear hb1
  by_cases h3 : 300 < s.length
  · go_wp2_with fail
    go_ret
    exact ⟨rfl, B1.out⟩
  by_cases h1 : 100 < zs.length
  · go_wp2_with fail
    go_ret
    exact ⟨rfl, B1.out⟩
  have h3' : s.length ≤ 300 := by omega
  have h1' : zs.length ≤ 100 := by omega
  go_wp2_with fail
  refine (H8.out w1 E1.out h3').mono ?_
  rintro e w2 ⟨hb2, A1, c1, rfl, hI1⟩
  have B2 := Lib.hid (B1.out.trans (hb2.mono B1.out.size))
  have I1 := Lib.hid hI1
  clear hb2 hI1
  go_wp2_with fail
  refine (H9.out w2 h3').mono ?_
  rintro e w3 ⟨hb3, A2, c2, rfl, hI2⟩
  have B3 := Lib.hid (B2.out.trans (hb3.mono B2.out.size))
  have I1' := Lib.hid ((I1.out.below hb3).more hb3.size)
  have I2 := Lib.hid hI2
  clear hb3 hI2 I1
  have B4 : Hid (Below w.heap.size w (w3.alloc (.cells #[.slice A2 p.length c2, .int .i64 (k0 : Int)] 27))) := B3.out.alloc B3.out.size _
  have E4 := Lib.hid (HE.out.on B4.out)
  go_wp2_with fail
  refine (H10.out _ E4.out h3').mono ?_
  rintro e w5 ⟨rfl, hb5⟩
  have B5 := Lib.hid (B4.out.trans (hb5.mono B4.out.size))
  have b35 : Hid (Below w3.heap.size w3 w5) := ((Below.refl _ _).alloc (Nat.le_refl _) _).trans (hb5.mono (by simp))
  have I1b := Lib.hid ((I1'.out.below b35.out).more b35.out.size)
  have I2b := Lib.hid ((I2.out.below b35.out).more b35.out.size)
  have q0 : Hid (w5.cell? ⟨w3.heap.size, 0, none⟩ = some (.slice A2 p.length c2)) := (hb5.cell (p := ⟨w3.heap.size, 0, none⟩) (by simp)).trans (by simp)
  have q1 : w5.cell? ⟨w3.heap.size, 1, none⟩ = some (.int .i64 (k0 : Int)) := (hb5.cell (p := ⟨w3.heap.size, 1, none⟩) (by simp)).trans (by simp)
  have q0' := q0.out
  have hg5 : w3.heap.size < w5.heap.size := World.block_lt_of_cell? w5 _ q1
  clear hb5 I1' I2 b35
  go_wp2_with fail
  go_loopg [62] p.length (fun k i wr => NamesRel w w5 p k i wr)
  case atStart => exact ⟨0, by simp, rfl, B5.out, Below.refl _ _⟩
  case round =>
    obtain ⟨m, hmk, hi, hb, hb'⟩ := hrel
    subst hi
    have BB := Lib.hid hb
    have BB' := Lib.hid hb'
    have EW := Lib.hid (HE.out.on hb)
    have r0 := (hb'.cell (p := ⟨w3.heap.size, 0, none⟩) hg5).trans q0.out
    clear hb
    cases gk with
    | zero =>
      have hge : p.length ≤ m := by omega
      have IZ := Lib.hid ((HI.out.below BB.out).more BB.out.size)
      have H11 := Lib.hid (name_any (c := c) (n := n) EW.out IZ.out (by omega))
      clear hb' hmk
      by_cases hok : CatOk zs n
      · have e1 : nameOf zs n = .tuple #[.string (str (catText (nats zs) n.toNat)), .bool true] := if_pos hok
        rw [e1] at H11
        have HO := Lib.hid hok
        clear e1 hok
        obtain ⟨T, hT⟩ : ∃ T, T = str (catText (nats zs) n.toNat) := ⟨_, rfl⟩
        rw [← hT] at H11
        have HT := Lib.hid hT
        clear hT
        go_wp2_with fail
        refine H11.out.mono ?_
        rintro e w6 ⟨rfl, hb6⟩
        have B6 := Lib.hid (BB.out.trans (hb6.mono BB.out.size))
        have J6 := Lib.hid ((HI.out.below B6.out).more B6.out.size)
        clear hb6 H11 r0
        have BA : Hid (Below w6.heap.size w6 (w6.alloc (.cells #[.slice A zs.length c, .int .i64 n] 27))) := (Below.refl _ _).alloc (Nat.le_refl _) _
        have H12 := Lib.hid (fits_any (c := c) (n := n) ((J6.out.below BA.out).more BA.out.size) (by omega))
        rw [decide_eq_true HO.out] at H12
        go_wp2_with fail
        refine H12.out.mono ?_
        rintro e w7 ⟨rfl, hb7⟩
        have B67 : Hid (Below w6.heap.size w6 w7) := BA.out.trans (hb7.mono (by simp))
        have B7 := Lib.hid (B6.out.trans (B67.out.mono B6.out.size))
        have t0 : w7.cell? ⟨w6.heap.size, 0, none⟩ = some (.slice A zs.length c) := (hb7.cell (p := ⟨w6.heap.size, 0, none⟩) (by simp)).trans (by simp)
        have t1 : w7.cell? ⟨w6.heap.size, 1, none⟩ = some (.int .i64 n) := (hb7.cell (p := ⟨w6.heap.size, 1, none⟩) (by simp)).trans (by simp)
        have H13 := Lib.hid (text_any (c := c) (n := n) ((J6.out.below B67.out).more B67.out.size) HO.out)
        rw [← HT.out] at H13
        clear hb7 H12
        go_wp2_with fail
        refine H13.out.mono ?_
        rintro e w8 ⟨rfl, hb8⟩
        have B8 := Lib.hid (B7.out.trans (hb8.mono B7.out.size))
        clear hb8 H13
        go_wp2_with fail
        go_ret
        exact ⟨rfl, B8.out⟩
      · have e1 : nameOf zs n = .tuple #[.string ⟨#[]⟩, .bool false] := if_neg hok
        rw [e1] at H11
        have HO := Lib.hid hok
        clear e1 hok
        go_wp2_with fail
        refine H11.out.mono ?_
        rintro e w6 ⟨rfl, hb6⟩
        have B6 := Lib.hid (BB.out.trans (hb6.mono BB.out.size))
        have J6 := Lib.hid ((HI.out.below B6.out).more B6.out.size)
        clear hb6 H11 r0
        have BA : Hid (Below w6.heap.size w6 (w6.alloc (.cells #[.slice A zs.length c, .int .i64 n] 27))) := (Below.refl _ _).alloc (Nat.le_refl _) _
        have H12 := Lib.hid (fits_any (c := c) (n := n) ((J6.out.below BA.out).more BA.out.size) (by omega))
        rw [decide_eq_false HO.out] at H12
        go_wp2_with fail
        refine H12.out.mono ?_
        rintro e w7 ⟨rfl, hb7⟩
        have B67 : Hid (Below w6.heap.size w6 w7) := BA.out.trans (hb7.mono (by simp))
        have B7 := Lib.hid (B6.out.trans (B67.out.mono B6.out.size))
        clear hb7 H12
        go_wp2_with fail
        go_ret
        exact ⟨rfl, B7.out⟩
    | succ j =>
      have hm : m < p.length := by omega
      obtain ⟨x, hx⟩ : ∃ x, p[m]? = some x := ⟨_, List.getElem?_eq_getElem hm⟩
      obtain ⟨b1, o1, rfl, hlt1, hc1⟩ := I1b.out.2 (by rw [ints_length]; omega)
      obtain ⟨b2, o2, rfl, hlt2, hc2⟩ := I2b.out.2 (by rw [ints_length]; omega)
      have x1 := (hb'.cell (p := ⟨b1, o1 + m, none⟩) hlt1).trans (hc1 m x (ints_at hx))
      have x2 := (hb'.cell (p := ⟨b2, o2 + m, none⟩) hlt2).trans (hc2 m x (ints_at hx))
      have HM := Lib.hid hmk
      clear hmk hx hc1 hc2 hb'
      go_wp2_with fail
      go_quiet (fail)
      go_wp2_with fail
      go_roundg j
      case measure => omega
      case rel => exact ⟨m + 1, by have := HM.out; omega, by go_num, below_drewN BB.out _, below_drewN BB'.out _⟩
end Go.Proofs.YtkjenigpheppjaaDoor
