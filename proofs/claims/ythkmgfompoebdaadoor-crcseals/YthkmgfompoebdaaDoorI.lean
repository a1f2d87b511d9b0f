/- CrcSeals answers true at every slice of bytes, wherever the table lies as the text lays it; only new memory is written. -/
import Derived.Test.YthkmgfompoebdaaDoorH
import Derived.RegionCalls
import Derived.IntWalk
namespace Go.Proofs.YthkmgfompoebdaaDoor
open Go.RowKit

theorem seals_big {w : World} {A : Option Addr} {n c : Nat} (ht : TabIn w) (hn : 2000 < n) (hm : n ≤ maxLen) :
    Calls Tryd.prog 4 #[.slice A n c] w (Fine w) := by
  have F := Lib.hid (first_true ht)
  clear ht
  unfold maxLen at hm
  go_enter Tryd.func4, Tryd.ntmps4
  go_wp2_with (go_at_call 6; refine F.out.mono ?_; rintro e w' ⟨rfl, hb⟩)
  go_ret
  exact ⟨rfl, hb⟩

set_option maxRecDepth 100000 in
theorem seals_few {w : World} {A : Option Addr} {c : Nat} {l : List Nat} (ht : TabIn w) (hl : Bts w w.heap.size A l) (hs : Sml l) (hn : l.length < 4) (hc : A = none → c = 0) :
    Calls Tryd.prog 4 #[.slice A l.length c] w (Fine w) := by
  have F := Lib.hid (first_true ht)
  have HT := Lib.hid ht
  have HL := Lib.hid hl
  have HS := Lib.hid hs
  have HC := Lib.hid hc
  have hd : decide ((2000 : Int) < (l.length : Int)) = false := by simp; omega
  have hd4 : decide ((l.length : Int) < 4) = true := by simp; omega
  clear ht hl hs hc
  go_enter Tryd.func4, Tryd.ntmps4
  go_wp2_with fail
  refine F.out.mono ?_
  rintro e w1 ⟨rfl, hb1⟩
  have B1 := Lib.hid hb1
  have H11 : Hid (Calls Tryd.prog 11 #[.slice A l.length c] w1.drew (RetRow w1.drew (sealed l))) :=
    seal_any (HT.out.below HT.out.1 hb1.drew) ((HL.out.below hb1.drew).more hb1.size) HC.out HS.out (by omega)
  have H12 : Hid (∀ W, Below w1.heap.size w1 W → Calls Tryd.prog 12 #[.slice A l.length c] W (RetB W (.string (str (sealed l))))) := fun W h =>
    ref_seal ((HL.out.below (hb1.trans (h.mono hb1.size))).more (Nat.le_trans hb1.size h.size)) HS.out (by omega)
  obtain ⟨sl, hsl⟩ : ∃ sl, sl = str (sealed l) := ⟨_, rfl⟩
  rw [← hsl] at H12
  have HE := Lib.hid hsl
  clear hb1 F hsl
  go_wp2_with fail
  go_region_with (first
    | (go_at_call 11; refine H11.out.mono ?_; rintro e w2 ⟨v, rfl, hown, hb2⟩; obtain ⟨A2, c2, rfl, hbt⟩ := bts_of_own hown rfl; have q2 := conv_str hbt c2; rw [← HE.out] at q2)
    | (go_at_call 12; refine (H12.out _ ((Below.refl _ _).drew.trans hb2)).mono ?_; rintro e w3 ⟨rfl, hb3⟩; have q3 := conv_str (hbt.below hb3) c2; rw [← HE.out] at q3))
  all_goals
    have hb4 : Below w1.heap.size w1 w3 := (Below.refl _ _).drew.trans (hb2.trans (hb3.mono hb2.size))
    have B3 := Lib.hid (B1.out.trans (hb4.mono B1.out.size))
    clear hb2 hb3 hb4 q2 q3 hbt hown
    go_wp2_with fail
    refine (open_short hn).mono ?_
    rintro e w4 ⟨rfl, hb4⟩
    have B4 := Lib.hid (B3.out.trans (hb4.mono B3.out.size))
    clear hb4
    go_wp2_with fail
    go_quiet (fail)
    go_wp2_with fail
    go_ret
    exact ⟨rfl, below_drewN B4.out _⟩

theorem str_differs {a b : ByteArray} (h : ¬ a = b) : (a.toList == b.toList) = false := by
  rw [beq_eq_false_iff_ne]
  intro e
  rw [ByteArray.toList_eq, ByteArray.toList_eq] at e
  exact h (ByteArray.ext (Array.toList_inj.1 e))
theorem sealed_of {p q : List Nat} (hs : Sml (p ++ q)) (hq : q.length = 4) (h : crc p = num q) : sealed p = p ++ q := by
  rw [sealed, h, be4_num (fun x hx => hs x (by simp [hx])) hq]
theorem not_sealed {p q : List Nat} (h : crc p ≠ num q) : sealed p ≠ p ++ q := by
  intro e
  rw [sealed, List.append_cancel_left_eq] at e
  exact h (by rw [← e, num_be4 (crc_lt p)])

set_option maxRecDepth 100000 in
theorem seals_many {w : World} {A : Option Addr} {c : Nat} {p q : List Nat} (ht : TabIn w) (hl : Bts w w.heap.size A (p ++ q)) (hs : Sml (p ++ q)) (hq : q.length = 4) (hn : p.length + 4 ≤ 2000) (hcap : p.length + 4 ≤ c) :
    Calls Tryd.prog 4 #[.slice A (p.length + 4) c] w (Fine w) := by
  obtain ⟨b, o, rfl, hlt, _⟩ := hl (by simp; omega)
  have F := Lib.hid (first_true ht)
  have HT := Lib.hid ht
  have HL := Lib.hid hl
  have HS := Lib.hid hs
  have hlen : (p ++ q).length = p.length + 4 := by rw [List.length_append, hq]
  have HN := Lib.hid hlen
  have HQ := Lib.hid hq
  have hd : decide ((2000 : Int) < (p.length : Int) + 4) = false := by simp; omega
  have hd4 : decide ((p.length : Int) + 4 < 4) = false := by simp; omega
  clear ht hl hs hlen hq
  go_enter Tryd.func4, Tryd.ntmps4
  go_wp2_with fail
  refine F.out.mono ?_
  rintro e w1 ⟨rfl, hb1⟩
  have B1 := Lib.hid hb1
  have H11 : Hid (Calls Tryd.prog 11 #[.slice (some ⟨b, o, none⟩) (p.length + 4) c] w1.drew (RetRow w1.drew (sealed (p ++ q)))) := by
    have := seal_any (c := c) (HT.out.below HT.out.1 hb1.drew) ((HL.out.below hb1.drew).more hb1.size) (fun h => by cases h) HS.out (by rw [HN.out]; omega)
    rwa [HN.out] at this
  have H12 : Hid (∀ W, Below w1.heap.size w1 W → Calls Tryd.prog 12 #[.slice (some ⟨b, o, none⟩) (p.length + 4) c] W (RetB W (.string (str (sealed (p ++ q)))))) := fun W h => by
    have := ref_seal (c := c) ((HL.out.below (hb1.trans (h.mono hb1.size))).more (Nat.le_trans hb1.size h.size)) HS.out (by rw [HN.out]; omega)
    rwa [HN.out] at this
  obtain ⟨sl, hsl⟩ : ∃ sl, sl = str (sealed (p ++ q)) := ⟨_, rfl⟩
  rw [← hsl] at H12
  have HE := Lib.hid hsl
  clear hb1 F hsl
  go_wp2_with fail
  go_region_with (first
    | (go_at_call 11; refine H11.out.mono ?_; rintro e w2 ⟨v, rfl, hown, hb2⟩; obtain ⟨A2, c2, rfl, hbt⟩ := bts_of_own hown rfl; have q2 := conv_str hbt c2; rw [← HE.out] at q2)
    | (go_at_call 12; refine (H12.out _ ((Below.refl _ _).drew.trans hb2)).mono ?_; rintro e w3 ⟨rfl, hb3⟩; have q3 := conv_str (hbt.below hb3) c2; rw [← HE.out] at q3))
  all_goals
    have hb4 : Below w1.heap.size w1 w3 := (Below.refl _ _).drew.trans (hb2.trans (hb3.mono hb2.size))
    have B3 := Lib.hid (B1.out.trans (hb4.mono B1.out.size))
    clear hb2 hb3 hb4 q2 q3 hbt hown
    go_wp2_with fail
    have T3 := Lib.hid (HT.out.below HT.out.1 B3.out)
    have L3 := Lib.hid ((HL.out.below B3.out).more B3.out.size)
    have s1 := slice_to b o p.length c hcap
    have hw : IntKind.i64.wrap (p.length : Int) = (p.length : Int) := IntWalk.i64_in _ (by omega)
    by_cases hcrc : crc p = num q
    · refine (open_yes T3.out L3.out HS.out HQ.out (by omega) hcap hcrc).mono ?_
      rintro e w4 ⟨A4, c4, rfl, hbt, hb4⟩
      have HE4 : Hid (str (sealed p) = str (p ++ q)) := congrArg str (sealed_of HS.out HQ.out hcrc)
      have L4 := Lib.hid ((L3.out.below hb4).more hb4.size)
      have H12 : Hid (Calls Tryd.prog 12 #[.slice (some ⟨b, o, none⟩) p.length c] w4.drew (RetB w4.drew (.string (str (sealed p))))) :=
        ref_seal (w := w4.drew) L4.out.left (fun x hx => HS.out x (by simp [hx])) (by omega)
      have C4 : Hid (∀ W, Below w4.heap.size w4 W → (convert 28 9 (.slice (some ⟨b, o, none⟩) (p.length + 4) c)).run Tryd.prog W = .ok (.string (str (p ++ q))) W) := fun W h => by
        have := conv_str (L4.out.below h) c
        rwa [HN.out] at this
      rw [HE4.out] at H12
      obtain ⟨s4, hs4⟩ : ∃ s4, s4 = str (p ++ q) := ⟨_, rfl⟩
      rw [← hs4] at H12 C4
      have B4 := Lib.hid (B3.out.trans (hb4.mono B3.out.size))
      have X4 := Lib.hid hbt
      clear hs4 hbt hb4 hcrc HE4
      go_wp2_with fail
      go_region_held3 (fun W => (convert 28 9 (.slice (some ⟨b, o, none⟩) (p.length + 4) c)).run Tryd.prog W = .ok (.string s4) W)
        (first | exact C4.out _ (Below.refl _ _).drew | exact C4.out _ ((Below.refl _ _).drew.trans hb5) | go_keep)
        (first
          | (go_at_call 12; refine H12.out.mono ?_; rintro e w5 ⟨rfl, hb5⟩))
      have hb6 : Below w4.heap.size w4 w5 := (Below.refl _ _).drew.trans hb5
      have d1 : ∀ n, (convert 28 9 (.slice A4 p.length c4)).run Tryd.prog (w5.drewN n) = .ok (.string (str p)) (w5.drewN n) := fun n => conv_str (X4.out.below (below_drewN hb6 n)) c4
      have d2 : ∀ n, (convert 28 9 (.slice (some ⟨b, o, none⟩) p.length c)).run Tryd.prog (w5.drewN n) = .ok (.string (str p)) (w5.drewN n) := fun n => conv_str (L4.out.left.below (below_drewN hb6 n)) c
      have B5 := Lib.hid (B4.out.trans (hb6.mono B4.out.size))
      obtain ⟨s5, hs5⟩ : ∃ s5, s5 = str p := ⟨_, rfl⟩
      rw [← hs5] at d1 d2
      clear hb5 hb6 hs5 C4 X4
      go_wp2_with fail
      go_quiet (fail)
      go_wp2_with fail
      go_ret
      exact ⟨rfl, below_drewN B5.out _⟩
    · refine (open_no T3.out L3.out HS.out HQ.out (by omega) hcap hcrc).mono ?_
      rintro e w4 ⟨rfl, hb4⟩
      have L4 := Lib.hid ((L3.out.below hb4).more hb4.size)
      have H12 : Hid (Calls Tryd.prog 12 #[.slice (some ⟨b, o, none⟩) p.length c] w4.drew (RetB w4.drew (.string (str (sealed p))))) :=
        ref_seal (w := w4.drew) L4.out.left (fun x hx => HS.out x (by simp [hx])) (by omega)
      have C4 : Hid (∀ W, Below w4.heap.size w4 W → (convert 28 9 (.slice (some ⟨b, o, none⟩) (p.length + 4) c)).run Tryd.prog W = .ok (.string (str (p ++ q))) W) := fun W h => by
        have := conv_str (L4.out.below h) c
        rwa [HN.out] at this
      have hne : ((str (sealed p)).toList == (str (p ++ q)).toList) = false := str_differs fun h => not_sealed hcrc (str_inj (sealed_sml fun x hx => HS.out x (by simp [hx])) HS.out h)
      obtain ⟨s4, hs4⟩ : ∃ s4, s4 = str (p ++ q) := ⟨_, rfl⟩
      obtain ⟨s5, hs5⟩ : ∃ s5, s5 = str (sealed p) := ⟨_, rfl⟩
      rw [← hs4] at hne C4
      rw [← hs5] at hne H12
      have B4 := Lib.hid (B3.out.trans (hb4.mono B3.out.size))
      clear hs4 hs5 hb4 hcrc
      go_wp2_with fail
      go_region_held3 (fun W => (convert 28 9 (.slice (some ⟨b, o, none⟩) (p.length + 4) c)).run Tryd.prog W = .ok (.string s4) W)
        (first | exact C4.out _ (Below.refl _ _).drew | exact C4.out _ ((Below.refl _ _).drew.trans hb5) | go_keep)
        (first
          | (go_at_call 12; refine H12.out.mono ?_; rintro e w5 ⟨rfl, hb5⟩))
      have hb6 : Below w4.heap.size w4 w5 := (Below.refl _ _).drew.trans hb5
      have B5 := Lib.hid (B4.out.trans (hb6.mono B4.out.size))
      clear hb5 hb6 C4
      go_wp2_with fail
      go_ret
      exact ⟨rfl, B5.out⟩
end Go.Proofs.YthkmgfompoebdaaDoor
