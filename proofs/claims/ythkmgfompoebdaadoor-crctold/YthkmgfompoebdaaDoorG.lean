/- crc.Open returns a copy of the bytes before the last four, and true, exactly if the last four are their checksum. -/
import Derived.Test.YthkmgfompoebdaaDoorF
import Derived.Deep.RegionHeld3
import Derived.Deep.QuietTactic
import Derived.BigQuiet
namespace Go.Proofs.YthkmgfompoebdaaDoor
open Go.RowKit

def OpenNo (w : World) (e : Ending) (w' : World) : Prop := e = .returned (.tuple #[.slice none 0 0, .bool false]) ∧ Below w.heap.size w w'
def OpenYes (w : World) (l : List Nat) (e : Ending) (w' : World) : Prop := ∃ A c, e = .returned (.tuple #[.slice A l.length c, .bool true]) ∧ Bts w' w'.heap.size A l ∧ Below w.heap.size w w'

theorem below_drewN {B : Nat} {a w : World} (h : Below B a w) (n : Nat) : Below B a (w.drewN n) := ⟨h.os, h.tape, h.output, h.size, h.block⟩

theorem open_short {w : World} {A : Option Addr} {n c : Nat} (hn : n < 4) : Calls Tryd.prog 13 #[.slice A n c] w (OpenNo w) := by
  have hd : decide ((n : Int) - 4 < 0) = true := by simp; omega
  go_enter Tryd.func13, Tryd.ntmps13
  go_wp2_with fail
  go_quiet (fail)
  go_wp2_with fail
  go_ret2
  exact ⟨rfl, below_drewN (Below.refl _ _) _⟩

theorem Bts.left {w : World} {B : Nat} {A : Option Addr} {p q : List Nat} (h : Bts w B A (p ++ q)) : Bts w B A p := fun hp => by
  obtain ⟨b, o, hA, hlt, hc⟩ := h (by simp; omega)
  exact ⟨b, o, hA, hlt, fun k c hk => hc k c (by rw [List.getElem?_append_left (List.getElem?_eq_some_iff.1 hk).1]; exact hk)⟩
theorem Bts.right {w : World} {B b o : Nat} {p q : List Nat} (h : Bts w B (some ⟨b, o, none⟩) (p ++ q)) : Bts w B (some ⟨b, o + p.length, none⟩) q := fun hp => by
  obtain ⟨b', o', hA, hlt, hc⟩ := h (by simp; omega)
  injection hA with hA
  injection hA with h1 h2
  subst h1 h2
  exact ⟨_, _, rfl, hlt, fun k c hk => by
    have := hc (p.length + k) c (by rw [List.getElem?_append_right (by omega), Nat.add_sub_cancel_left]; exact hk)
    rwa [← Nat.add_assoc] at this⟩

theorem Tryd.size5 : ∀ w, (Go.sizeOf 5).run Tryd.prog w = .ok 1 w := fun _ => by kernel_rfl
theorem Tryd.elem28 : Tryd.prog.elem 28 = 5 := by kernel_rfl
theorem Tryd.under28 : Tryd.prog.underlying 28 = some (.slice (Tryd.prog.elem 28)) := by kernel_rfl
theorem slice_to (b o n c : Nat) (hc : n + 4 ≤ c) (W : World) : (Instr.slice 28 (.slice (some ⟨b, o, none⟩) (n + 4) c) none (some (.int .i64 (n : Int))) none).run Tryd.prog W = .ok (.slice (some ⟨b, o, none⟩) n c) W := by
  rw [run_slice_h W 28 _ _ _ Tryd.under28 .i64 _ (by omega) (by omega), Tryd.elem28, Tryd.size5]
  simp [Result.andThen, sliced, Addr.add]
theorem slice_from (b o n c : Nat) (hc : n + 4 ≤ c) (W : World) : (Instr.slice 28 (.slice (some ⟨b, o, none⟩) (n + 4) c) (some (.int .i64 (n : Int))) none none).run Tryd.prog W = .ok (.slice (some ⟨b, o + n, none⟩) 4 (c - n)) W := by
  rw [run_slice_l W 28 _ _ _ Tryd.under28 .i64 _ (by omega) (by omega), Tryd.elem28, Tryd.size5]
  have hne : ¬ c = n := by omega
  by_cases h0 : n = 0
  · subst h0
    simp [Result.andThen, sliced, Addr.add, hne]
  · simp [Result.andThen, sliced, Addr.add, hne, h0]

set_option maxRecDepth 100000 in
theorem open_no {w : World} {A : Option Addr} {c : Nat} {p q : List Nat} (ht : TabIn w) (hl : Bts w w.heap.size A (p ++ q)) (hs : Sml (p ++ q)) (hq : q.length = 4) (hp : p.length ≤ 10000) (hc : p.length + 4 ≤ c) (hne : crc p ≠ num q) :
    Calls Tryd.prog 13 #[.slice A (p.length + 4) c] w (OpenNo w) := by
  obtain ⟨b, o, rfl, hlt, _⟩ := hl (by simp; omega)
  have H10 : Hid (∀ W, Below w.heap.size w W → Calls Tryd.prog 10 #[.slice (some ⟨b, o, none⟩) p.length c] W (RetB W (.int .u32 ((crc p : Nat) : Int)))) := fun W hb =>
    of_any (ht.below ht.1 hb) ((hl.left.below hb).more hb.size) (fun x hx => hs x (by simp [hx])) (by omega)
  have H15 : Hid (∀ W, Below w.heap.size w W → Calls Tryd.prog 15 #[.slice (some ⟨b, o + p.length, none⟩) 4 (c - p.length)] W fun e w' => e = .returned (.int .u32 ((num q : Nat) : Int)) ∧ W = w') := fun W hb => by
    rw [← hq]
    exact num_any ((hl.right.below hb).more hb.size) (fun x hx => hs x (by simp [hx])) (by omega)
  have hd : decide ((p.length : Int) < 0) = false := by simp
  have hne' : ((crc p : Nat) == (num q : Nat)) = false := by simpa using hne
  obtain ⟨v, hv⟩ : ∃ v, v = crc p := ⟨_, rfl⟩
  obtain ⟨u, hu⟩ : ∃ u, u = num q := ⟨_, rfl⟩
  rw [← hv] at H10 hne'
  rw [← hu] at H15 hne'
  have s1 := slice_to b o p.length c hc
  have s2 := slice_from b o p.length c hc
  clear hv hu hne ht hl hs hq
  go_enter Tryd.func13, Tryd.ntmps13
  go_wp2_with fail
  go_region_held3 (fun W => Below w.heap.size w W)
    (first | assumption | exact (Below.refl _ _).drew | go_keep)
    (first
      | (go_at_call 10; refine (H10.out _ (Below.refl _ _).drew).mono ?_; rintro e w1 ⟨rfl, hb1⟩; have hbn : Below w.heap.size w w1 := (Below.refl _ _).drew.trans hb1; clear hb1)
      | (go_at_call 15; refine (H15.out _ hbn).mono ?_; rintro e w2 ⟨rfl, rfl⟩))
  have HB := Lib.hid hbn
  clear hbn
  go_wp2_with fail
  go_ret2
  exact ⟨rfl, HB.out⟩

set_option maxRecDepth 100000 in
theorem open_yes {w : World} {A : Option Addr} {c : Nat} {p q : List Nat} (ht : TabIn w) (hl : Bts w w.heap.size A (p ++ q)) (hs : Sml (p ++ q)) (hq : q.length = 4) (hp : p.length ≤ 10000) (hc : p.length + 4 ≤ c) (hne : crc p = num q) :
    Calls Tryd.prog 13 #[.slice A (p.length + 4) c] w (OpenYes w p) := by
  obtain ⟨b, o, rfl, hlt, _⟩ := hl (by simp; omega)
  have H10 : Hid (∀ W, Below w.heap.size w W → Calls Tryd.prog 10 #[.slice (some ⟨b, o, none⟩) p.length c] W (RetB W (.int .u32 ((crc p : Nat) : Int)))) := fun W hb =>
    of_any (ht.below ht.1 hb) ((hl.left.below hb).more hb.size) (fun x hx => hs x (by simp [hx])) (by omega)
  have H15 : Hid (∀ W, Below w.heap.size w W → Calls Tryd.prog 15 #[.slice (some ⟨b, o + p.length, none⟩) 4 (c - p.length)] W fun e w' => e = .returned (.int .u32 ((num q : Nat) : Int)) ∧ W = w') := fun W hb => by
    rw [← hq]
    exact num_any ((hl.right.below hb).more hb.size) (fun x hx => hs x (by simp [hx])) (by omega)
  have hd : decide ((p.length : Int) < 0) = false := by simp
  obtain ⟨v, hv⟩ : ∃ v, v = crc p := ⟨_, rfl⟩
  rw [← hv] at H10 hne
  rw [← hne] at H15
  have s1 := slice_to b o p.length c hc
  have s2 := slice_from b o p.length c hc
  have HL := Lib.hid hl
  clear hv hne ht hl hs hq
  go_enter Tryd.func13, Tryd.ntmps13
  go_wp2_with fail
  go_region_held3 (fun W => Below w.heap.size w W)
    (first | assumption | exact (Below.refl _ _).drew | go_keep)
    (first
      | (go_at_call 10; refine (H10.out _ (Below.refl _ _).drew).mono ?_; rintro e w1 ⟨rfl, hb1⟩; have hbn : Below w.heap.size w w1 := (Below.refl _ _).drew.trans hb1; clear hb1)
      | (go_at_call 15; refine (H15.out _ hbn).mono ?_; rintro e w2 ⟨rfl, rfl⟩))
  have HB := Lib.hid hbn
  have HL1 := Lib.hid ((HL.out.left.below hbn).more hbn.size)
  clear hbn HL
  go_wp2_with fail
  refine (clone_any HL1.out (fun h => by cases h) (by omega)).mono ?_
  rintro e w3 ⟨A3, c3, rfl, hb3, hbl⟩
  have HB3 := Lib.hid (HB.out.trans (hbl.mono HB.out.size))
  have HL3 := Lib.hid hb3
  clear hb3 hbl HB HL1
  go_wp2_with fail
  go_ret2
  exact ⟨A3, c3, rfl, HL3.out, HB3.out⟩
end Go.Proofs.YthkmgfompoebdaaDoor
