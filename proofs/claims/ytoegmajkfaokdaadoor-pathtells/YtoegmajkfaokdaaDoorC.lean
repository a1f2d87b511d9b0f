/- What the program finds in the library's variables; strings; cats.inRange, cats.parseNumber. -/
import Derived.Test.YtoegmajkfaokdaaDoorA
import Derived.Test.YtoegmajkfaokdaaDoorShelf
import Derived.WalkKit
import Derived.WalkSmall
import Derived.LaidEql
import Derived.Deep.LoopGhost
import Derived.Lib.Hide
import Derived.RegionCalls
import Derived.IntWalk
import Derived.Deep.RegionHeld3
import Derived.StillTailTactics
import Derived.Deep.QuietTactic
import Derived.BigQuiet
namespace Go.Proofs.YtoegmajkfaokdaaDoor
open Go.RowKit

/-- What the program finds in the library's variables. -/
def Env (w : World) : Prop :=
  8 ≤ w.heap.size ∧ (∃ m, w.cell? ⟨4, 0, none⟩ = some (.int .i64 m)) ∧ (∃ te pe, w.cell? ⟨0, 0, none⟩ = some (.iface te pe)) ∧ (∃ te pe, w.cell? ⟨1, 0, none⟩ = some (.iface te pe)) ∧
    Lib.TabIs Tryd.prog w "internal/strconv.uint64pow10" .u64 Lib.pow10Tab
theorem Tryd.namedPow : Tryd.prog.globalNamed "internal/strconv.uint64pow10" = some 5 := by kernel_rfl
theorem Env.below {w w' : World} {B : Nat} (h : Env w) (hb : Below B w w') (hB : 8 ≤ B) : Env w' := by
  obtain ⟨h0, ⟨m, h1⟩, ⟨t2, p2, h2⟩, ⟨t3, p3, h3⟩, h4⟩ := h
  exact ⟨Nat.le_trans h0 hb.size, ⟨m, (hb.cell (p := ⟨4, 0, none⟩) (show 4 < B by omega)).trans h1⟩, ⟨t2, p2, (hb.cell (p := ⟨0, 0, none⟩) (show 0 < B by omega)).trans h2⟩,
    ⟨t3, p3, (hb.cell (p := ⟨1, 0, none⟩) (show 1 < B by omega)).trans h3⟩, var?_below hb Tryd.namedPow (by omega) h4⟩
theorem Env.on {w w' : World} (h : Env w) (hb : Below w.heap.size w w') : Env w' := h.below hb h.1

/-- Bytes as a string. -/
def str (l : List UInt8) : ByteArray := ⟨l.toArray⟩
theorem str_size (l : List UInt8) : (str l).size = l.length := by simp [str, ByteArray.size]
theorem str_list (l : List UInt8) : (str l).data.toList = l := by simp [str]
theorem str_of (s : ByteArray) : s = str s.data.toList := by simp [str]
theorem str_inj {a b : List UInt8} (h : str a = str b) : a = b := by rw [← str_list a, h, str_list]
theorem str_append (a b : List UInt8) : str a ++ str b = str (a ++ b) := by
  apply ByteArray.ext
  simp [str, ByteArray.data_append]
theorem str_same {a b : List UInt8} (h : a = b) : ((str a).toList == (str b).toList) = true := by subst h; simp
theorem str_differs {a b : List UInt8} (h : ¬ a = b) : ((str a).toList == (str b).toList) = false := by
  rw [beq_eq_false_iff_ne]
  intro e
  rw [ByteArray.toList_eq, ByteArray.toList_eq, str_list, str_list] at e
  exact h e

/-- It returns v; only new memory is written. -/
def RetB (w : World) (v : Value) (e : Ending) (w' : World) : Prop := e = .returned v ∧ Below w.heap.size w w'

theorem below_drewN {B : Nat} {w w' : World} (h : Below B w w') (n : Nat) : Below B w (w'.drewN n) := ⟨h.os, h.tape, h.output, h.size, h.block⟩
theorem below_grow (w : World) (k : Nat) (os : Array Obj) : Below w.heap.size w (Sort.grow (w.drewN k) os) :=
  ⟨rfl, rfl, rfl, by simp [Sort.grow, World.drewN], fun i hi => by simp only [Sort.grow, World.drewN]; rw [Array.getElem?_append_left hi]⟩

theorem itoa_more {w : World} {n : Int} (h : Env w) (h0 : -9223372036854775808 ≤ n) (h1 : n ≤ 9223372036854775807) : Calls Tryd.prog 34 #[.int .i64 n] w fun e w' => RetB w (.string (str (Lib.itoa n))) e w' ∧ w.drawn ≤ w'.drawn := by
  refine (Tryd.strconv_Itoa n h0 h1 w h.2.2.2.2).mono ?_
  rintro e w' ⟨rfl, k, os, rfl⟩
  exact ⟨⟨rfl, below_grow w k os⟩, Nat.le_add_right _ _⟩
theorem itoa_any {w : World} {n : Int} (h : Env w) (h0 : -9223372036854775808 ≤ n) (h1 : n ≤ 9223372036854775807) : Calls Tryd.prog 34 #[.int .i64 n] w (RetB w (.string (str (Lib.itoa n)))) := by
  refine (Tryd.strconv_Itoa n h0 h1 w h.2.2.2.2).mono ?_
  rintro e w' ⟨rfl, k, os, rfl⟩
  exact ⟨rfl, below_grow w k os⟩

/-- What Atoi says of a text: a number and no error, or some number and an error. -/
def RetAtoi (w : World) (t : List UInt8) (e : Ending) (w' : World) : Prop :=
  Below w.heap.size w w' ∧ ((∃ v, Lib.atoiAll t = .ok v ∧ -9223372036854775808 ≤ v ∧ v ≤ 9223372036854775807 ∧ e = .returned (.tuple #[.int .i64 v, .nilIface]) ∧ w.drawn ≤ w'.drawn) ∨
    ((∀ v, Lib.atoiAll t ≠ .ok v) ∧ ∃ v N, e = .returned (.tuple #[.int .i64 v, .iface 95 (.pointer (some ⟨N, 0, none⟩))])))
theorem atoi_any {w : World} {t : List UInt8} (h : Env w) (hn : t.length ≤ 140737488351232) : Calls Tryd.prog 33 #[.string (str t)] w (RetAtoi w t) := by
  have hs : (str t).size ≤ 140737488351232 := by rw [str_size]; exact hn
  obtain ⟨_, _, ⟨t2, p2, h2⟩, ⟨t3, p3, h3⟩, _⟩ := h
  cases ha : Lib.atoiAll t with
  | ok v =>
    refine (Tryd.strconv_Atoi_ok (str t) (by omega) v (by rw [str_list]; exact ha) w).mono ?_
    rintro e w' ⟨rfl, hw⟩
    have hb := Lib.atoiAll_bounds ha
    refine ⟨?_, .inl ⟨v, ha, hb.1, hb.2, rfl, ?_⟩⟩
    · rcases hw with rfl | ⟨u, rfl⟩
      · exact Below.refl _ _
      · exact Lib.bytesWorld_below w 5 u
    · rcases hw with rfl | ⟨u, rfl⟩
      · exact Nat.le_refl _
      · exact Nat.le_add_right _ 1
  | «syntax» =>
    refine (Tryd.strconv_Atoi_syntax (str t) (by omega) (by rw [str_list]; exact ha) _ w h2 (.inr ⟨_, _, rfl⟩)).mono ?_
    rintro e w' ⟨N, rfl, _, _, hb⟩
    exact ⟨hb, .inr ⟨fun v => (by rw [ha]; intro e; cases e), _, N, rfl⟩⟩
  | range =>
    refine (Tryd.strconv_Atoi_range (str t) (by omega) (by rw [str_list]; exact ha) _ w h3 (.inr ⟨_, _, rfl⟩)).mono ?_
    rintro e w' ⟨N, rfl, _, _, hb⟩
    exact ⟨hb, .inr ⟨fun v => (by rw [ha]; intro e; cases e), _, N, rfl⟩⟩

end Go.Proofs.YtoegmajkfaokdaaDoor
