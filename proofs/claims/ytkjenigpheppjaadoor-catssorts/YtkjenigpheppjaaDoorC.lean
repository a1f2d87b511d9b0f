/- What the program finds in the library's variables; strings; cats.inRange, cats.parseNumber. -/
import Derived.Test.YtkjenigpheppjaaDoorA
import Derived.Test.YtkjenigpheppjaaDoorShelf
import Derived.WalkKit
import Derived.WalkSmall
import Derived.LaidEql
import Derived.Deep.LoopGhost
import Derived.Lib.Hide
import Derived.RegionCalls
import Derived.IntWalk
import Derived.Deep.RegionHeld3
import Derived.StillTailTactics
import Derived.Deep.QuietTactic
import Derived.BigQuiet
namespace Go.Proofs.YtkjenigpheppjaaDoor
open Go.RowKit

/-- What the program finds in the library's variables. -/
def Env (w : World) : Prop :=
  8 ≤ w.heap.size ∧ (∃ m, w.cell? ⟨0, 0, none⟩ = some (.int .i64 m)) ∧ (∃ te pe, w.cell? ⟨1, 0, none⟩ = some (.iface te pe)) ∧ (∃ te pe, w.cell? ⟨2, 0, none⟩ = some (.iface te pe)) ∧
    Lib.TabIs Tryd.prog w "internal/strconv.uint64pow10" .u64 Lib.pow10Tab
theorem Tryd.named3 : Tryd.prog.globalNamed "internal/strconv.uint64pow10" = some 3 := by kernel_rfl
theorem Env.below {w w' : World} {B : Nat} (h : Env w) (hb : Below B w w') (hB : 8 ≤ B) : Env w' := by
  obtain ⟨h0, ⟨m, h1⟩, ⟨t2, p2, h2⟩, ⟨t3, p3, h3⟩, h4⟩ := h
  exact ⟨Nat.le_trans h0 hb.size, ⟨m, (hb.cell (p := ⟨0, 0, none⟩) (show 0 < B by omega)).trans h1⟩, ⟨t2, p2, (hb.cell (p := ⟨1, 0, none⟩) (show 1 < B by omega)).trans h2⟩,
    ⟨t3, p3, (hb.cell (p := ⟨2, 0, none⟩) (show 2 < B by omega)).trans h3⟩, var?_below hb Tryd.named3 (by omega) h4⟩
theorem Env.on {w w' : World} (h : Env w) (hb : Below w.heap.size w w') : Env w' := h.below hb h.1

/-- Bytes as a string. -/
def str (l : List UInt8) : ByteArray := ⟨l.toArray⟩
theorem str_size (l : List UInt8) : (str l).size = l.length := by simp [str, ByteArray.size]
theorem str_list (l : List UInt8) : (str l).data.toList = l := by simp [str]
theorem str_of (s : ByteArray) : s = str s.data.toList := by simp [str]
theorem str_inj {a b : List UInt8} (h : str a = str b) : a = b := by rw [← str_list a, h, str_list]
theorem str_append (a b : List UInt8) : str a ++ str b = str (a ++ b) := by
  apply ByteArray.ext
  simp [str, ByteArray.data_append]
theorem str_same {a b : List UInt8} (h : a = b) : ((str a).toList == (str b).toList) = true := by subst h; simp
theorem str_differs {a b : List UInt8} (h : ¬ a = b) : ((str a).toList == (str b).toList) = false := by
  rw [beq_eq_false_iff_ne]
  intro e
  rw [ByteArray.toList_eq, ByteArray.toList_eq, str_list, str_list] at e
  exact h e

/-- It returns v; only new memory is written. -/
def RetB (w : World) (v : Value) (e : Ending) (w' : World) : Prop := e = .returned v ∧ Below w.heap.size w w'

theorem below_drewN {B : Nat} {w w' : World} (h : Below B w w') (n : Nat) : Below B w (w'.drewN n) := ⟨h.os, h.tape, h.output, h.size, h.block⟩
theorem below_grow (w : World) (k : Nat) (os : Array Obj) : Below w.heap.size w (Sort.grow (w.drewN k) os) :=
  ⟨rfl, rfl, rfl, by simp [Sort.grow, World.drewN], fun i hi => by simp only [Sort.grow, World.drewN]; rw [Array.getElem?_append_left hi]⟩

theorem itoa_more {w : World} {n : Int} (h : Env w) (h0 : -9223372036854775808 ≤ n) (h1 : n ≤ 9223372036854775807) : Calls Tryd.prog 24 #[.int .i64 n] w fun e w' => RetB w (.string (str (Lib.itoa n))) e w' ∧ w.drawn ≤ w'.drawn := by
  refine (Tryd.strconv_Itoa n h0 h1 w h.2.2.2.2).mono ?_
  rintro e w' ⟨rfl, k, os, rfl⟩
  exact ⟨⟨rfl, below_grow w k os⟩, Nat.le_add_right _ _⟩
theorem itoa_any {w : World} {n : Int} (h : Env w) (h0 : -9223372036854775808 ≤ n) (h1 : n ≤ 9223372036854775807) : Calls Tryd.prog 24 #[.int .i64 n] w (RetB w (.string (str (Lib.itoa n)))) := by
  refine (Tryd.strconv_Itoa n h0 h1 w h.2.2.2.2).mono ?_
  rintro e w' ⟨rfl, k, os, rfl⟩
  exact ⟨rfl, below_grow w k os⟩

/-- What Atoi says of a text: a number and no error, or some number and an error. -/
def RetAtoi (w : World) (t : List UInt8) (e : Ending) (w' : World) : Prop :=
  Below w.heap.size w w' ∧ ((∃ v, Lib.atoiAll t = .ok v ∧ -9223372036854775808 ≤ v ∧ v ≤ 9223372036854775807 ∧ e = .returned (.tuple #[.int .i64 v, .nilIface]) ∧ w.drawn ≤ w'.drawn) ∨
    ((∀ v, Lib.atoiAll t ≠ .ok v) ∧ ∃ v N, e = .returned (.tuple #[.int .i64 v, .iface 97 (.pointer (some ⟨N, 0, none⟩))])))
theorem atoi_any {w : World} {t : List UInt8} (h : Env w) (hn : t.length ≤ 140737488351232) : Calls Tryd.prog 36 #[.string (str t)] w (RetAtoi w t) := by
  have hs : (str t).size ≤ 140737488351232 := by rw [str_size]; exact hn
  obtain ⟨_, _, ⟨t2, p2, h2⟩, ⟨t3, p3, h3⟩, _⟩ := h
  cases ha : Lib.atoiAll t with
  | ok v =>
    refine (Tryd.strconv_Atoi_ok (str t) (by omega) v (by rw [str_list]; exact ha) w).mono ?_
    rintro e w' ⟨rfl, hw⟩
    have hb := Lib.atoiAll_bounds ha
    refine ⟨?_, .inl ⟨v, ha, hb.1, hb.2, rfl, ?_⟩⟩
    · rcases hw with rfl | ⟨u, rfl⟩
      · exact Below.refl _ _
      · exact Lib.bytesWorld_below w 5 u
    · rcases hw with rfl | ⟨u, rfl⟩
      · exact Nat.le_refl _
      · exact Nat.le_add_right _ 1
  | «syntax» =>
    refine (Tryd.strconv_Atoi_syntax (str t) (by omega) (by rw [str_list]; exact ha) _ w h2 (.inr ⟨_, _, rfl⟩)).mono ?_
    rintro e w' ⟨N, rfl, _, _, hb⟩
    exact ⟨hb, .inr ⟨fun v => (by rw [ha]; intro e; cases e), _, N, rfl⟩⟩
  | range =>
    refine (Tryd.strconv_Atoi_range (str t) (by omega) (by rw [str_list]; exact ha) _ w h3 (.inr ⟨_, _, rfl⟩)).mono ?_
    rintro e w' ⟨N, rfl, _, _, hb⟩
    exact ⟨hb, .inr ⟨fun v => (by rw [ha]; intro e; cases e), _, N, rfl⟩⟩

theorem inRange_any (n most : Int) (w : World) : Calls Tryd.prog 22 #[.int .i64 n, .int .i64 most] w fun e w' => e = .returned (.bool (decide (0 ≤ n ∧ n ≤ most))) ∧ w = w' := by
  by_cases h0 : 0 ≤ n
  · by_cases h1 : n ≤ most
    · rw [decide_eq_true ⟨h0, h1⟩]
      go_enter Tryd.func22, Tryd.ntmps22
      go_wp2_with fail
      go_ret
      exact ⟨rfl, rfl⟩
    · rw [decide_eq_false (fun h => h1 h.2)]
      go_enter Tryd.func22, Tryd.ntmps22
      go_wp2_with fail
      go_ret
      exact ⟨rfl, rfl⟩
  · rw [decide_eq_false (fun h => h0 h.1)]
    go_enter Tryd.func22, Tryd.ntmps22
    go_wp2_with fail
    go_ret
    exact ⟨rfl, rfl⟩

/-- The number that a text is, and true; else 0 and false. -/
def RetNum (most : Nat) (w : World) (t : List UInt8) (e : Ending) (w' : World) : Prop :=
  Below w.heap.size w w' ∧ ((∃ u : Nat, IsNum most t u ∧ e = .returned (.tuple #[.int .i64 (u : Int), .bool true]) ∧ w.drawn ≤ w'.drawn) ∨ ((∀ u, ¬ IsNum most t u) ∧ e = .returned (.tuple #[.int .i64 0, .bool false])))

set_option maxRecDepth 100000 in
theorem parseNumber_any {w : World} {t : List UInt8} {most : Nat} (h : Env w) (hn : t.length ≤ 140737488351232) (hm : most ≤ 1048576) :
    Calls Tryd.prog 20 #[.string (str t), .int .i64 (most : Int)] w (RetNum most w t) := by
  have H := Lib.hid h
  have H36 := Lib.hid (atoi_any h hn)
  clear h
  go_enter Tryd.func20, Tryd.ntmps20
  go_wp2_with fail
  refine H36.out.mono ?_
  rintro e w1 ⟨hb, (⟨v, ha, hv0, hv1, rfl, hdr⟩ | ⟨ha, v, N, rfl⟩)⟩
  · have HB := Lib.hid hb
    have HE := Lib.hid (H.out.on hb)
    have HA := Lib.hid ha
    clear hb ha
    by_cases hr : 0 ≤ v ∧ v ≤ (most : Int)
    · have H22 := Lib.hid (inRange_any v most w1)
      rw [decide_eq_true hr] at H22
      have H24 := Lib.hid (itoa_more HE.out hv0 hv1)
      have HDR := Lib.hid hdr
      clear hdr
      by_cases hs : Lib.itoa v = t
      · have hq := str_same hs
        have HI := Lib.hid (isNum_itoa hr.1 hr.2 hs)
        have hu : ((v.toNat : Nat) : Int) = v := by omega
        have HU := Lib.hid hu
        clear hr hu hs
        go_wp2_with (first
          | (go_at_call 22; refine H22.out.mono ?_; rintro e w' ⟨rfl, rfl⟩)
          | (go_at_call 24; refine H24.out.mono ?_; rintro e w2 ⟨⟨rfl, hb2⟩, hd2⟩))
        go_ret2
        exact ⟨HB.out.trans (hb2.mono HB.out.size), .inl ⟨v.toNat, HI.out, by rw [HU.out]; rfl, Nat.le_trans HDR.out hd2⟩⟩
      · have hq := str_differs hs
        have HI : Hid (∀ u, ¬ IsNum most t u) := fun u hu => by
          have h1 := isNum_ok hm hu
          have : v = (u : Int) := by have := HA.out.symm.trans h1.1; injection this
          subst this
          exact hs h1.2
        clear hr hs
        go_wp2_with (first
          | (go_at_call 22; refine H22.out.mono ?_; rintro e w' ⟨rfl, rfl⟩)
          | (go_at_call 24; refine H24.out.mono ?_; rintro e w2 ⟨⟨rfl, hb2⟩, _⟩))
        go_ret2
        exact ⟨HB.out.trans (hb2.mono HB.out.size), .inr ⟨HI.out, rfl⟩⟩
    · have H22 := Lib.hid (inRange_any v most w1)
      rw [decide_eq_false hr] at H22
      have HI : Hid (∀ u, ¬ IsNum most t u) := fun u hu => by
        have h1 := isNum_ok hm hu
        have : v = (u : Int) := by have := HA.out.symm.trans h1.1; injection this
        have h2 := hu.1
        exact hr (by omega)
      clear hr
      go_wp2_with (first
        | (go_at_call 22; refine H22.out.mono ?_; rintro e w' ⟨rfl, rfl⟩))
      go_ret2
      exact ⟨HB.out, .inr ⟨HI.out, rfl⟩⟩
  · have HB := Lib.hid hb
    have HI : Hid (∀ u, ¬ IsNum most t u) := fun u hu => ha _ (isNum_ok hm hu).1
    clear hb ha
    go_wp2_with fail
    go_ret2
    exact ⟨HB.out, .inr ⟨HI.out, rfl⟩⟩
end Go.Proofs.YtkjenigpheppjaaDoor
