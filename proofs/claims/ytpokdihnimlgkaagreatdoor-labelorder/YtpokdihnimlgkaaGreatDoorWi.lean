/- label.With. -/
import Derived.Test.YtpokdihnimlgkaaGreatDoorMk
namespace Go.Proofs.YtpokdihnimlgkaaGreatDoor
open Go.RowKit

/-- What With says of a label, a category and a level. -/
def WithOut (l : List Ent) (s : List UInt8) (n : Int) (m : List Ent) (z : Int) : Prop := (¬ RightL l ∧ m = [] ∧ z = 21) ∨ (RightL l ∧ MakeOut (l ++ [(s, n)]) m z)
theorem WithOut.uniq {l m m' : List Ent} {s : List UInt8} {n z z' : Int} (h : WithOut l s n m z) (h' : WithOut l s n m' z') : m = m' ∧ z = z' := by
  rcases h with ⟨h1, rfl, rfl⟩ | ⟨h1, h3⟩
  · rcases h' with ⟨_, rfl, rfl⟩ | ⟨h4, _⟩
    · exact ⟨rfl, rfl⟩
    · exact absurd h4 h1
  · rcases h' with ⟨h4, _⟩ | ⟨_, h6⟩
    · exact absurd h1 h4
    · exact h3.uniq h6

set_option maxRecDepth 100000 in
set_option maxHeartbeats 1000000 in
theorem with_any {w : World} {A : Option Addr} {c : Nat} {l : List Ent} {s : List UInt8} {n : Int} (he : Env w) (h : Lab w A c l) (hs : s.length ≤ 140737488351232) :
    Calls Tryz.prog 11 #[.slice A l.length c, .string (str s), .int .i64 n] w (RetLab w (WithOut l s n)) := by
  have HE := Lib.hid he
  have HA := Lib.hid h
  have H14 := Lib.hid (labelRight_any (c := c) he h.ents h.txt h.len)
  clear he h
  by_cases hra : RightL l
  · rw [decide_eq_true hra] at H14
    have RA := Lib.hid hra
    have hl8 := hra.1
    clear hra
    go_enter Tryz.func11, Tryz.ntmps11
    go_wp2_with fail
    refine H14.out.mono ?_
    rintro e w1 ⟨rfl, hb1⟩
    have B1 := Lib.hid hb1
    have E1 := Lib.hid (HE.out.on hb1)
    have A1 := Lib.hid (HA.out.on hb1)
    obtain ⟨W0, hW0⟩ : ∃ W0, W0 = w1.alloc (.cells #[.string (str s), .int .i64 n] 33) := ⟨_, rfl⟩
    have hB0 : Below w1.heap.size w1 W0 := by rw [hW0]; exact (Below.refl _ _).alloc (Nat.le_refl _) _
    have hs0 : W0.heap.size = w1.heap.size + 1 := by rw [hW0]; simp
    have hone : Ents W0 W0.heap.size (some ⟨w1.heap.size, 0, none⟩) [(s, n)] := by rw [hs0, hW0]; exact ents_one _ _ _
    obtain ⟨W1, hW1⟩ : ∃ W1, W1 = W0.alloc (.cells #[.slice A l.length c, .slice (some ⟨w1.heap.size, 0, none⟩) 1 1] 23) := ⟨_, rfl⟩
    have hB1 : Below W0.heap.size W0 W1 := by rw [hW1]; exact (Below.refl _ _).alloc (Nat.le_refl _) _
    have hs1 : W1.heap.size = W0.heap.size + 1 := by rw [hW1]; simp
    have hB01 : Below w1.heap.size w1 W1 := hB0.trans (hB1.mono hB0.size)
    have H36 := Lib.hid (concat_any (w := W1) (b := W0.heap.size) (o := 0) (A2 := some ⟨w1.heap.size, 0, none⟩) (c2 := 1) (l2 := [(s, n)]) (by rw [hW1]; simp) (by rw [hW1]; simp) (by omega) (A1.out.on hB01).ents ((hone.below hB1).more hB1.size) A1.out.nil (fun h => by cases h) (by simp; omega))
    have HB01 := Lib.hid hB01
    have HW0 := Lib.hid hW0
    have HW1 := Lib.hid hW1
    have HS0 := Lib.hid hs0
    clear hb1 H14 hW0 hW1 hB0 hB1 hB01 hone hs0 hs1
    go_wp2_with fail
    rw [← HW0.out, ← HS0.out, ← HW1.out]
    refine H36.out.mono ?_
    rintro e w3 ⟨v, rfl, hrow, hb3⟩
    obtain ⟨L, hL⟩ : ∃ L, L = l ++ [(s, n)] := ⟨_, rfl⟩
    rw [← hL] at hrow
    obtain ⟨A', c', rfl, _, hents⟩ := hrow.ents
    have B3 : Hid (Below w1.heap.size w1 w3) := HB01.out.trans (hb3.mono HB01.out.size)
    have H9 := Lib.hid (make_any (c := c') (l := L) (E1.out.on B3.out) hents (fun e h => by
      rw [hL] at h
      rcases List.mem_append.1 h with h | h
      · exact HA.out.txt e h
      · simp at h
        rw [h]
        exact hs) (by rw [hL]; simp; omega))
    have HLL := Lib.hid hL
    clear hb3 hrow hents H36 hL
    go_wp2_with fail
    refine H9.out.mono ?_
    rintro e w4 ⟨hb4, A5, c5, q, z, hq, rfl, hlab⟩
    have HQ := Lib.hid hq
    have HLAB := Lib.hid hlab
    have B4 : Hid (Below w.heap.size w w4) := B1.out.trans ((B3.out.trans (hb4.mono B3.out.size)).mono B1.out.size)
    clear hb4 hq hlab H9
    go_wp2_with fail
    go_ret2
    exact ⟨B4.out, A5, c5, q, z, .inr ⟨RA.out, by rw [← HLL.out]; exact HQ.out⟩, rfl, HLAB.out⟩
  · rw [decide_eq_false hra] at H14
    have HD := Lib.hid hra
    clear hra
    go_enter Tryz.func11, Tryz.ntmps11
    go_wp2_with fail
    refine H14.out.mono ?_
    rintro e w1 ⟨rfl, hb1⟩
    have B1 := Lib.hid hb1
    clear hb1 H14
    go_wp2_with fail
    go_ret2
    exact ⟨B1.out, none, 0, [], 21, .inl ⟨HD.out, rfl, rfl⟩, rfl, lab_nil _⟩
end Go.Proofs.YtpokdihnimlgkaaGreatDoor
