/- DigestStays walked: it answers true. -/
import Derived.Test.YtgjccgdnhccndaaH
namespace Go.Proofs.Ytgjccgdnhccndaa
open Go.RowKit

/-- One slice of bytes in a new slice of slices. -/
theorem part_laid {w : World} {A : Option Addr} {c : Nat} {l : List Nat} (h : Bts w w.heap.size A l) (hc : A = none → c = 0) (hn : l.length ≤ 2000) :
    Parts (w.alloc (.cells #[.slice A l.length c] 24)) (w.alloc (.cells #[.slice A l.length c] 24)).heap.size (some ⟨w.heap.size, 0, none⟩) [l] := by
  intro _
  have hb : Below w.heap.size w (w.alloc (.cells #[.slice A l.length c] 24)) := (Below.refl _ _).alloc (Nat.le_refl _) _
  refine ⟨w.heap.size, 0, rfl, by simp, fun k x hk => ?_⟩
  rw [cell_of_row _ _ _ _ _ _ (heap_alloc_new w _), Nat.zero_add]
  match k, hk with
  | 0, hk => simp at hk; subst hk; exact ⟨A, c, rfl, (h.below hb).more hb.size, hc, by unfold maxLen; omega⟩
  | k + 1, hk => simp at hk

theorem parts_one {w : World} {A : Option Addr} {c : Nat} {l : List Nat} (h : Bts w w.heap.size A l) (hs : Sml l) (hc : A = none → c = 0) (hn : l.length ≤ 2000) :
    Calls Try.prog 10 #[.slice (some ⟨w.heap.size, 0, none⟩) 1 1] (w.alloc (.cells #[.slice A l.length c] 24)) (RetB (w.alloc (.cells #[.slice A l.length c] 24)) (.int .i64 ((dig (cat [l] 1) : Nat) : Int))) :=
  parts_any (ps := [l]) (part_laid h hc hn) (fun x hx => by simp at hx; subst hx; exact hs) (by simp) (fun x hx => by simp at hx; subst hx; omega)

set_option maxRecDepth 100000 in
theorem stays_any {w : World} {A : Option Addr} {c : Nat} {l : List Nat} {was : Int} (hl : Bts w w.heap.size A l) (hs : Sml l) (hA : A = none → c = 0) (hn : l.length ≤ maxLen) :
    Calls Try.prog 4 #[.slice A l.length c, .int .i64 was] w (Fine w) := by
  have HL := Lib.hid hl
  have HS := Lib.hid hs
  have HA := Lib.hid hA
  unfold maxLen at hn
  clear hl hs hA
  go_enter Try.func4, Try.ntmps4
  go_wp2_with fail
  refine (first_true w).mono ?_
  rintro e w1 ⟨rfl, hb1⟩
  have B1 := Lib.hid hb1
  have L1 := Lib.hid ((HL.out.below hb1).more hb1.size)
  clear hb1
  by_cases h2 : 2000 < l.length
  · go_wp2_with fail
    go_ret
    exact ⟨rfl, B1.out⟩
  · have hn2 : l.length ≤ 2000 := by omega
    have hd := dig_lt l
    have hk := dig_lt (le8 (u64 was) ++ l)
    have G6 : Hid (∀ {W : World} {A : Option Addr} {c : Nat}, Bts W W.heap.size A l → Calls Try.prog 6 #[.slice A l.length c] W (RetB W (.int .i64 ((dig l : Nat) : Int)))) := fun h => of_any h HS.out (by omega)
    have G8 : Hid (∀ {W : World} {A : Option Addr} {c : Nat}, Bts W W.heap.size A l → Calls Try.prog 8 #[.int .i64 was, .slice A l.length c] W (RetB W (.int .i64 ((dig (le8 (u64 was) ++ l) : Nat) : Int)))) := fun h => chain_any h HS.out (by omega)
    obtain ⟨d, hde⟩ : ∃ d, d = dig l := ⟨_, rfl⟩
    obtain ⟨k, hke⟩ : ∃ k, k = dig (le8 (u64 was) ++ l) := ⟨_, rfl⟩
    rw [← hde] at hd G6
    rw [← hke] at hk G8
    clear h2 hde hke
    go_wp2_with fail
    refine (G6.out L1.out).mono ?_
    rintro e w2 ⟨rfl, hb2⟩
    have B2 := Lib.hid (B1.out.trans (hb2.mono B1.out.size))
    have L2 := Lib.hid ((L1.out.below hb2).more hb2.size)
    clear hb2
    go_wp2_with fail
    refine (G8.out L2.out).mono ?_
    rintro e w3 ⟨rfl, hb3⟩
    have B3 := Lib.hid (B2.out.trans (hb3.mono B2.out.size))
    have L3 := Lib.hid ((L2.out.below hb3).more hb3.size)
    have hle : ([] : List Nat).length + l.length ≤ 1000000 := by simp; omega
    clear hb3 L1 L2 B1 B2
    go_wp2_with (first
      | (at_builtin; refine wpList_append_bts rfl _ _ rfl w3.heap.size _ [] rfl (World.ownsRow_lit (base := w3.heap.size) w3 #[] 0 (Nat.le_refl _) (by unfold maxLen; omega) rfl) w3.heap.size A l.length c l rfl rfl (L3.out.below ((Below.refl _ _).alloc (Nat.le_refl _) _)) HA.out hle (by simp) ?_))
    intro v4 w4 h4 hb4
    obtain ⟨A4, c4, rfl, hbt4, hc4⟩ := Row.bts (l := l) h4
    have hb34 : Below w3.heap.size w3 w4 := ((Below.refl w3.heap.size w3).alloc (Nat.le_refl _) _).trans hb4
    have B4 := Lib.hid (B3.out.trans (hb34.mono B3.out.size))
    have L4 := Lib.hid ((L3.out.below hb34).more hb34.size)
    have O4 := Lib.hid hbt4
    have HC4 := Lib.hid hc4
    clear h4 hb4 hbt4 hc4 hb34 L3 B3 hle
    go_wp2_with fail
    refine (G6.out O4.out).mono ?_
    rintro e w5 ⟨rfl, hb5⟩
    have B5 := Lib.hid (B4.out.trans (hb5.mono B4.out.size))
    have L5 := Lib.hid ((L4.out.below hb5).more hb5.size)
    have O5 := Lib.hid ((O4.out.below hb5).more hb5.size)
    clear hb5 B4 L4 O4
    go_wp2_with fail
    refine (G8.out O5.out).mono ?_
    rintro e w6 ⟨rfl, hb6⟩
    have B6 := Lib.hid (B5.out.trans (hb6.mono B5.out.size))
    have L6 := Lib.hid ((L5.out.below hb6).more hb6.size)
    have O6 := Lib.hid ((O5.out.below hb6).more hb6.size)
    clear hb6 B5 L5 O5
    go_wp2_with fail
    refine (parts_one L6.out HS.out HA.out hn2).mono ?_
    rintro e w7 ⟨rfl, hb7⟩
    have hb67 : Below w6.heap.size w6 w7 := ((Below.refl w6.heap.size w6).alloc (Nat.le_refl _) _).trans (hb7.mono (by simp))
    have B7 := Lib.hid (B6.out.trans (hb67.mono B6.out.size))
    have O7 := Lib.hid ((O6.out.below hb67).more hb67.size)
    clear hb7 hb67 B6 L6 O6
    go_wp2_with fail
    refine (parts_one O7.out HS.out HC4.out hn2).mono ?_
    rintro e w8 ⟨rfl, hb8⟩
    have hb78 : Below w7.heap.size w7 w8 := ((Below.refl w7.heap.size w7).alloc (Nat.le_refl _) _).trans (hb8.mono (by simp))
    have B8 := Lib.hid (B7.out.trans (hb78.mono B7.out.size))
    clear hb8 hb78 B7 O7
    go_wp2_with fail
    go_ret
    exact ⟨rfl, B8.out⟩
end Go.Proofs.Ytgjccgdnhccndaa
