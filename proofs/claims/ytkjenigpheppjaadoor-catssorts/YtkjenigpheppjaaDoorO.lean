/- What the sort asks of its comparison. -/
import Derived.Test.YtkjenigpheppjaaDoorStr
import Derived.Test.YtkjenigpheppjaaDoorM
import Derived.Test.YtkjenigpheppjaaDoorN
import Derived.Test.YtkjenigpheppjaaDoorSort
namespace Go.Proofs.YtkjenigpheppjaaDoor
open Go.RowKit Go.Shelf

/-- A category, as the sort's element. -/
structure CatT where
  val : List UInt8
  ok : (catOf val).isSome = true
theorem cat_zero : catOf [47, 48] = some ([], 0) := catOf_iff.2 ⟨by decide, by
  have h : Lib.decDigits 0 = [48] := Lib.decDigits_one (by omega)
  simp [catText, pathText, joinDot, h]⟩
instance : Inhabited CatT := ⟨⟨[47, 48], by rw [cat_zero]; rfl⟩⟩
def encC (x : CatT) : Value := .string (str x.val)
def cfC (x y : CatT) : Int := cmpC x.val y.val
theorem lt_iff {x y : CatT} : ltOf cfC x y = decide (cmpC x.1 y.1 < 0) := rfl
theorem catT_ext {x y : CatT} (h : x.val = y.val) : x = y := by
  cases x; cases y; cases h; rfl
theorem swo_cats : Sort.SWO (ltOf cfC) where
  irrefl x := by
    rw [lt_iff, tot_cmpC.refl]
    rfl
  trans x y z h1 h2 := by
    rw [lt_iff] at *
    simp only [decide_eq_true_eq] at *
    have o1 := tot_cmpC.one x.1 y.1
    have o2 := tot_cmpC.one y.1 z.1
    have := tot_cmpC.lt_trans (x := x.1) (y := y.1) (z := z.1) (by omega) (by omega)
    omega
  ntrans x y z h1 h2 := by
    rw [lt_iff] at *
    simp only [decide_eq_false_iff_not] at *
    have n1 := tot_cmpC.neg x.1 y.1
    have n2 := tot_cmpC.neg y.1 z.1
    have n3 := tot_cmpC.neg x.1 z.1
    have := tot_cmpC.trans z.1 y.1 x.1 (by omega) (by omega)
    omega
theorem parts_cats (x y : CatT) (h1 : ltOf cfC x y = false) (h2 : ltOf cfC y x = false) : x = y := by
  rw [lt_iff] at *
  simp only [decide_eq_false_iff_not] at *
  have n1 := tot_cmpC.neg x.1 y.1
  exact catT_ext ((tot_cmpC.eq x.1 y.1).1 (by omega))

theorem put_size {α : Type} [Inhabited α] {enc : α → Value} {w : World} {n g off : Nat} {d : Array α} : (Sort.putRow enc (Sort.ahead w n) g off d).heap.size = w.heap.size := by
  simp [Sort.putRow, Sort.mapBlock, Sort.ahead]
theorem below_put {α : Type} [Inhabited α] (enc : α → Value) (w : World) (g off n B : Nat) (d : Array α) (os : Array Obj) (hB : B ≤ g) (hs : B ≤ w.heap.size) :
    Below B w (Sort.grow (Sort.putRow enc (Sort.ahead w n) g off d) os) := by
  refine ⟨rfl, rfl, rfl, ?_, fun k hk => ?_⟩
  · rw [Sort.size_grow, put_size]
    omega
  · rw [Sort.heap_grow_old _ _ (by rw [put_size]; omega)]
    have : g ≠ k := by omega
    simp [Sort.putRow, Sort.mapBlock, Sort.ahead, Array.getElem?_modify, this]
theorem holds_grow {α : Type} [Inhabited α] {enc : α → Value} {w : World} {g off : Nat} {d : Array α} (h : Sort.Holds enc w g off d) (hg : g < w.heap.size) (os : Array Obj) : Sort.Holds enc (Sort.grow w os) g off d :=
  Sort.holds_grow enc w os g off d hg h

theorem grow_of_below {w w' : World} (hb : Below w.heap.size w w') (hd : w.drawn ≤ w'.drawn) : ∃ q os', w' = Sort.grow (w.drewN q) os' := by
  refine ⟨w'.drawn - w.drawn, w'.heap.extract w.heap.size w'.heap.size, ?_⟩
  have hh : w'.heap = w.heap ++ w'.heap.extract w.heap.size w'.heap.size := by
    apply Array.ext_getElem?
    intro i
    by_cases hi : i < w.heap.size
    · rw [Array.getElem?_append_left hi]
      exact hb.block i hi
    · rw [Array.getElem?_append_right (by omega)]
      have hsz := hb.size
      by_cases hi2 : i < w'.heap.size
      · rw [Array.getElem?_eq_getElem hi2, Array.getElem?_eq_getElem (by simp; omega)]
        simp
        congr 1
        omega
      · rw [Array.getElem?_eq_none (by omega), Array.getElem?_eq_none (by simp; omega)]
  have h1 := hb.os
  have h2 := hb.tape
  have h3 := hb.output
  obtain ⟨_⟩ := w
  obtain ⟨_⟩ := w'
  simp only [Sort.grow, World.drewN] at *
  subst h1 h2 h3
  congr 1
  omega

theorem cmp_lays {w : World} (he : Env w) (g off size : Nat) (hg : 8 ≤ g) : CmpLays1 Tryd.prog 14 #[] encC cfC g off size w := by
  intro m os dk _ x y
  have hE : Env (sortWorld encC w g off m dk os) := he.below (below_put encC w g off m 8 dk os hg he.1) (Nat.le_refl _)
  refine Calls.mono (show Calls Tryd.prog 14 (#[encC x, encC y] ++ #[]) _ _ from compare_more hE (cat_len x.2) (cat_len y.2)) ?_
  rintro e w' ⟨⟨rfl, hb⟩, hd⟩
  obtain ⟨q, os', h⟩ := grow_of_below hb (hd ⟨x.2, y.2⟩)
  exact ⟨rfl, q, os', h⟩

theorem cats_of : ∀ {R : List (List UInt8)}, (∀ x ∈ R, (catOf x).isSome = true) → ∃ d : List CatT, d.map CatT.val = R
  | [], _ => ⟨[], rfl⟩
  | x :: r, h => by
    obtain ⟨d, hd⟩ := cats_of (R := r) fun y hy => h y (List.mem_cons_of_mem _ hy)
    exact ⟨⟨x, h x (by simp)⟩ :: d, by rw [List.map_cons, hd]⟩
theorem holds_row {w : World} {base g cap : Nat} {R : List (List UInt8)} (h : StrRow w base (.slice (some ⟨g, 0, none⟩) R.length cap) R) (hc : ∀ x ∈ R, (catOf x).isSome = true) :
    ∃ d : Array CatT, d.toList.map CatT.val = R ∧ Sort.Holds encC w g 0 d := by
  obtain ⟨d, hd⟩ := cats_of hc
  refine ⟨d.toArray, hd, fun j hj => ?_⟩
  have hj' : j < d.length := by simpa using hj
  have hl : d.length = R.length := by rw [← hd]; simp
  have h0 : w.ownsRow base 9 1 (.slice (some ⟨g, 0, none⟩) R.length cap) R.length (strCellsOf R) := h
  refine ⟨?_, ?_⟩
  · rw [Nat.zero_add, h0.cellAt j (by omega)]
    unfold strCellsOf
    rw [← hd]
    simp [hj', encC]
  · rw [Nat.zero_add]
    exact h0.frozenAt j
theorem holds_cats {w : World} {g off : Nat} {d : Array CatT} (h : Sort.Holds encC w g off d) : Sort.Holds encStr w g off (d.toList.map CatT.val).toArray := fun j hj => by
  have hj' : j < d.size := by simpa using hj
  have := h j hj'
  rw [getElem!_pos d j hj'] at this
  rw [getElem!_pos _ j hj]
  simpa [encC, encStr, str] using this
theorem holds_strs {w : World} {g off k : Nat} {l : List (List UInt8)} {x : List UInt8} (h : Sort.Holds encStr w g off l.toArray) (hk : l[k]? = some x) : w.cell? ⟨g, off + k, none⟩ = some (.string (str x)) := by
  obtain ⟨h1, h2⟩ := List.getElem?_eq_some_iff.1 hk
  have := (h k (by simpa using h1)).1
  rw [getElem!_pos l.toArray k (by simpa using h1)] at this
  rw [this]
  simp [h2, encStr, str]
end Go.Proofs.YtkjenigpheppjaaDoor
