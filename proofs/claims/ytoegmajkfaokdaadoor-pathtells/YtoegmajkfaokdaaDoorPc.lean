/- path.Parent, path.Child. -/
import Derived.Test.YtoegmajkfaokdaaDoorSm
namespace Go.Proofs.YtoegmajkfaokdaaDoor
open Go.RowKit

/-- Nothing, 0 and false; or a new row of what is ahead of the last number, that number, true. -/
def RetPar (w : World) (l : List Int) (e : Ending) (w' : World) : Prop :=
  Below w.heap.size w w' ∧ ((l = [] ∧ e = .returned (.tuple #[.slice none 0 0, .int .i64 0, .bool false])) ∨
    ∃ ys z v, l = ys ++ [z] ∧ e = .returned (.tuple #[v, .int .i64 z, .bool true]) ∧ ZRow w' w.heap.size v ys)

set_option maxRecDepth 100000 in
set_option maxHeartbeats 1000000 in
theorem parent_any {w : World} {A : Option Addr} {c : Nat} {l : List Int} (h : PL w A c l) (hn : l.length ≤ 100000) : Calls Tryd.prog 16 #[.slice A l.length c] w (RetPar w l) := by
  rcases List.eq_nil_or_concat l with hl | ⟨ys, z, hl⟩
  · subst hl
    clear h
    go_enter Tryd.func16, Tryd.ntmps16
    go_wp2_with fail
    go_ret3
    exact ⟨Below.refl _ _, .inl ⟨rfl, rfl⟩⟩
  · rw [List.concat_eq_append] at hl
    have hlen : l.length = ys.length + 1 := by rw [hl]; simp
    obtain ⟨b, o, hA, hb, hc⟩ := h.zs (by omega)
    subst hA
    have hz : l[ys.length]? = some z := by rw [hl]; simp
    have c1 := hc _ z hz
    have hcap := h.cap
    have hs := slice_to22 ⟨b, o, none⟩ l.length ys.length c (by omega)
    have hty : l.take ys.length = ys := by rw [hl]; simp
    have hzy : Zs w w.heap.size (some ⟨b, o, none⟩) ys := by
      have := h.zs.take ys.length
      rwa [hty] at this
    rw [hlen] at hs ⊢
    have HL := Lib.hid hl
    obtain ⟨n, hny⟩ : ∃ n, n = ys.length := ⟨_, rfl⟩
    have HC : Hid (∀ W, Below w.heap.size w W → Calls Tryd.prog 37 #[.slice (some ⟨b, o, none⟩) n c] W fun e w' => ∃ v, e = .returned v ∧ ZRow w' w.heap.size v ys ∧ Below w.heap.size w w') := fun W hW => by
      rw [hny]
      refine (cloneZ_any (c := c) ((hzy.below hW).more hW.size) (fun h => by cases h) (by omega)).mono ?_
      rintro e w' ⟨v, rfl, hr, hb2⟩
      refine ⟨v, rfl, ?_, hW.trans (hb2.mono hW.size)⟩
      have h0 : w'.ownsRow W.heap.size 3 1 v ys.length (zCellsOf ys) := hr
      obtain ⟨h1, h2⟩ := h0
      refine ⟨h1, ?_⟩
      rcases h2 with h2 | ⟨g, cap, cur, e, hbb, r⟩
      · exact .inl h2
      · exact .inr ⟨g, cap, cur, e, Nat.le_trans hW.size hbb, r⟩
    rw [← hny] at hs c1 ⊢
    have hnb : n ≤ 100000 := by omega
    have hnc : n + 1 ≤ c := by omega
    have q1 : (n : Int) < (n : Int) + 1 := by omega
    have q0 : ((n : Int) + 1 == 0) = false := by rw [beq_eq_false_iff_ne]; omega
    clear h hc hz hlen hty hzy hl hny
    go_enter Tryd.func16, Tryd.ntmps16
    go_wp2_with fail
    go_region_held3 (fun W => W.cell? ⟨b, o + n, none⟩ = some (.int .i64 z))
      (first
        | go_keep
        | exact (hbA.cell (p := ⟨b, o + n, none⟩) hb).trans c1)
      (first
        | (go_at_call 37; refine (HC.out _ (Below.refl _ _).drew).mono ?_; rintro e w2 ⟨v, rfl, hrow, hbA⟩))
    have HR := Lib.hid hrow
    have HB := Lib.hid hbA
    clear hrow hbA
    go_wp2_with fail
    go_ret3
    exact ⟨HB.out, .inr ⟨ys, z, v, HL.out, rfl, HR.out⟩⟩

/-- A new row and true if it is a path; else nothing and false. -/
def RetChild (w : World) (l : List Int) (e : Ending) (w' : World) : Prop :=
  Below w.heap.size w w' ∧ ((PathOk l ∧ ∃ v, e = .returned (.tuple #[v, .bool true]) ∧ ZRow w' w.heap.size v l) ∨ (¬ PathOk l ∧ e = .returned (.tuple #[.slice none 0 0, .bool false])))

set_option maxRecDepth 100000 in
set_option maxHeartbeats 1000000 in
theorem child_any {w : World} {A : Option Addr} {c : Nat} {l : List Int} {n : Int} (h : PL w A c l) (hn : l.length ≤ 100000) : Calls Tryd.prog 17 #[.slice A l.length c, .int .i64 n] w (RetChild w (l ++ [n])) := by
  obtain ⟨W0, hW0⟩ : ∃ W0, W0 = (w.alloc (.cells #[.int .i64 n] 3)).alloc (.cells #[.slice A l.length c, .slice (some ⟨w.heap.size, 0, none⟩) 1 1] 22) := ⟨_, rfl⟩
  have hB0 : Below w.heap.size w W0 := by rw [hW0]; exact ((Below.refl _ _).alloc (Nat.le_refl _) _).alloc (by simp) _
  have hs0 : W0.heap.size = w.heap.size + 1 + 1 := by rw [hW0]; simp
  have k1 : W0.cell? ⟨w.heap.size + 1, 0, none⟩ = some (.slice A l.length c) := by
    rw [hW0]
    simp
  have k2 : W0.cell? ⟨w.heap.size + 1, 0 + 1, none⟩ = some (.slice (some ⟨w.heap.size, 0, none⟩) [n].length 1) := by
    rw [hW0]
    simp
  have k3 : Zs W0 W0.heap.size (some ⟨w.heap.size, 0, none⟩) [n] := fun _ => ⟨w.heap.size, 0, rfl, by omega, fun k x hk => by
    cases k with
    | zero =>
      simp at hk
      subst hk
      rw [hW0]
      simp
    | succ k => simp at hk⟩
  have HC := concatZ_any k1 k2 (by omega) ((h.zs.below hB0).more hB0.size) k3 h.nil (fun h => by cases h) (by simp; omega)
  have HC := Lib.hid HC
  have HW := Lib.hid hW0
  have HB := Lib.hid hB0
  clear h k1 k2 k3 hs0 hW0 hB0
  go_enter Tryd.func17, Tryd.ntmps17
  go_wp2_with fail
  rw [← HW.out]
  refine HC.out.mono ?_
  rintro e w1 ⟨v, rfl, hrow, hb1⟩
  obtain ⟨A1, c1, rfl, hz1⟩ := hrow.zs
  have HR := Lib.hid (right_any (c := c1) hz1)
  have HB1 : Hid (Below w.heap.size w w1) := HB.out.trans (hb1.mono HB.out.size)
  have HRow : Hid (ZRow w1 w.heap.size (.slice A1 (l ++ [n]).length c1) (l ++ [n])) := by
    have h0 : w1.ownsRow W0.heap.size 3 1 _ (l ++ [n]).length (zCellsOf (l ++ [n])) := hrow
    obtain ⟨h1, h2⟩ := h0
    refine ⟨h1, ?_⟩
    rcases h2 with h2 | ⟨g, cap, cur, e, hbb, r⟩
    · exact .inl h2
    · exact .inr ⟨g, cap, cur, e, Nat.le_trans HB.out.size hbb, r⟩
  obtain ⟨L, hL⟩ : ∃ L, L = l ++ [n] := ⟨_, rfl⟩
  rw [← hL] at HR HRow ⊢
  have HLL := Lib.hid hL
  clear hrow hb1 hz1 HC HW hL
  by_cases hok : PathOk L
  · have hd : decide (PathOk L) = true := decide_eq_true hok
    rw [hd] at HR
    have HOK := Lib.hid hok
    clear hok hd
    go_wp2_with (go_at_call 11; refine HR.out.mono ?_; rintro e w' ⟨rfl, rfl⟩)
    go_ret2
    exact ⟨HB1.out, by rw [← HLL.out]; exact .inl ⟨HOK.out, _, rfl, HRow.out⟩⟩
  · have hd : decide (PathOk L) = false := decide_eq_false hok
    rw [hd] at HR
    have HOK := Lib.hid hok
    clear hok hd
    go_wp2_with (go_at_call 11; refine HR.out.mono ?_; rintro e w' ⟨rfl, rfl⟩)
    go_ret2
    exact ⟨HB1.out, by rw [← HLL.out]; exact .inr ⟨HOK.out, rfl⟩⟩
end Go.Proofs.YtoegmajkfaokdaaDoor
