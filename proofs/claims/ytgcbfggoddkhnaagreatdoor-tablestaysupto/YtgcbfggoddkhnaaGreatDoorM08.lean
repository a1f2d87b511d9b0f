/- Lemmas for the law: S, Oc, Xm, Xw, Xn, QJoin, QNm, QTx, Xf, Xu. -/
import Derived.Test.YtgcbfggoddkhnaaGreatDoorM07
import Derived.Maps.AppendAt
import Derived.Test.YtgcbfggoddkhnaaGreatDoorM06
import Derived.Test.YtgcbfggoddkhnaaGreatDoorM04
import Derived.Maps.OwnSet
import Derived.Maps.OwnOps
import Derived.Maps.RangeWalk
import Derived.Shelf.Strings.OnBuilder
import Derived.Test.YtgcbfggoddkhnaaGreatDoorProg
import Derived.Test.YtgcbfggoddkhnaaGreatDoorM02
import Derived.Lib.ItoaLen
namespace Go.Proofs.YtgcbfggoddkhnaaGreatDoor
open Go.RowKit Go.Shelf
def RetSort (w : World) (l : List (List UInt8)) (e : Ending) (w' : World) : Prop :=
  Below w.heap.size w w' ∧ ∃ A c R, e = .returned (.slice A R.length c) ∧ (A = none → c = 0) ∧ Strs w' w'.heap.size A R ∧ Rises cmpC R ∧ ∀ x, x ∈ R ↔ x ∈ l ∧ (catOf x).isSome = true
def Sorted (w : World) (base g cap : Nat) (R : List (List UInt8)) (e : Ending) (w' : World) : Prop :=
  e = .returned (.tuple #[]) ∧ Below base w w' ∧ ∃ zs : List (List UInt8), zs.length = R.length ∧ RisesW cmpC zs ∧ (∀ x, x ∈ zs ↔ x ∈ R) ∧ Sort.Holds encStr w' g 0 zs.toArray ∧ g < w'.heap.size ∧ R.length ≤ cap
theorem sortFunc_any {w : World} {base g cap : Nat} {R : List (List UInt8)} (he : Env w) (hb8 : 8 ≤ base) (h : StrRow w base (.slice (some ⟨g, 0, none⟩) R.length cap) R) (hc : ∀ x ∈ R, (catOf x).isSome = true) (hn : R.length ≤ 100000000) :
    Calls Tryz.prog 145 #[.slice (some ⟨g, 0, none⟩) R.length cap, .func (.func 103) #[] #[]] w (Sorted w base g cap R) := by
  obtain ⟨d, hd, hH⟩ := holds_row h hc
  have hlt := World.ownsRow.lt h g rfl
  have hsz : d.size = R.length := by rw [← hd]; simp
  have eg : ∀ args w, (callFunc 103 args).run Tryz.prog w = .ok (.enter 103 args) w := enters_of Tryz.func103 (by kernel_rfl) rfl
  have hS := Any.slices_SortFunc_total Tryz.sortL encC (fun _ => rfl) cfC swo_cats 103 #[] g 0 cap d w eg (cmp_lays he g 0 d.size (by omega)) hH hlt.2 (by omega) parts_cats
  rw [hsz] at hS
  refine Calls.mono (show Calls Tryz.prog 145 _ _ _ from hS) ?_
  rintro e w' ⟨rfl, n, os, rfl⟩
  have hcap : R.length ≤ cap := by
    have h0 : w.ownsRow base 9 1 (.slice (some ⟨g, 0, none⟩) R.length cap) R.length (strCellsOf R) := h
    rcases h0.2 with ⟨hx, _⟩ | ⟨g', cap', cur, hx, _, _, hle, _⟩
    · cases hx
    · injection hx with _ _ hx
      omega
  refine ⟨rfl, below_put encC w g 0 n base _ os hlt.1 (Nat.le_trans hlt.1 (Nat.le_of_lt hlt.2)), (d.toList.mergeSort fun x y => !(ltOf cfC) y x).map CatT.val, ?_, ?_, ?_, ?_, ?_, hcap⟩
  · simp [hsz]
  · unfold RisesW
    rw [List.pairwise_map]
    have hp := List.pairwise_mergeSort (le := fun x y => !(ltOf cfC) y x) (fun a b c h1 h2 => ?_) (fun a b => ?_) d.toList
    · refine hp.imp fun {x y} hxy => ?_
      rw [lt_iff] at hxy
      have := tot_cmpC.neg x.1 y.1
      simp at hxy
      omega
    · rw [lt_iff] at *
      simp at *
      have n1 := tot_cmpC.neg a.1 b.1
      have n2 := tot_cmpC.neg b.1 c.1
      have n3 := tot_cmpC.neg a.1 c.1
      have := tot_cmpC.trans a.1 b.1 c.1 (by omega) (by omega)
      omega
    · rw [lt_iff, lt_iff]
      have n1 := tot_cmpC.neg a.1 b.1
      simp
      omega
  · intro x
    rw [← hd]
    simp [List.mem_mergeSort]
  · refine holds_cats (d := (d.toList.mergeSort fun x y => !(ltOf cfC) y x).toArray) ?_
    refine holds_grow (Sort.holds_putRow encC (Sort.ahead w n) g 0 d _ (fun j hj => hH j hj) (by simp)) ?_ os
    rw [put_size]
    exact hlt.2
  · have : g < (Sort.putRow encC (Sort.ahead w n) g 0 (d.toList.mergeSort fun x y => !(ltOf cfC) y x).toArray).heap.size := by rw [put_size]; exact hlt.2
    simp only [sortWorld, Sort.grow, Array.size_append]
    omega
theorem compact_any {w : World} {g cap B : Nat} {zs : List (List UInt8)} (hH : Sort.Holds encStr w g 0 zs.toArray) (hg : g < w.heap.size) (hB : B ≤ g) (hn : zs.length ≤ 100000000) (hcap : zs.length ≤ cap) (hr : RisesW cmpC zs) :
    Calls Tryz.prog 146 #[.slice (some ⟨g, 0, none⟩) zs.length cap] w fun e w' => Below B w w' ∧ ∃ R : List (List UInt8), e = .returned (.slice (some ⟨g, 0, none⟩) R.length cap) ∧ Strs w' w'.heap.size (some ⟨g, 0, none⟩) R ∧ Rises cmpC R ∧ ∀ x, x ∈ R ↔ x ∈ zs := by
  refine (Tryz.slices_Compact_string g 0 cap zs w hH (by omega) hcap).mono ?_
  rintro e w' ⟨rfl, q, rfl⟩
  obtain ⟨h1, h2⟩ := rises_compact tot_cmpC hr
  have hb := below_put encStr w g 0 q B (Lib.compact zs ++ List.replicate (zs.length - (Lib.compact zs).length) []).toArray #[] hB (by omega)
  rw [Sort.grow_empty] at hb
  refine ⟨hb, Lib.compact zs, rfl, fun _ => ⟨g, 0, rfl, by rw [put_size]; exact hg, fun k x hk => ?_⟩, h1, h2⟩
  have hlen : (Lib.compact zs).length ≤ zs.length := by
    unfold Lib.compact Lib.compactUpTo
    rw [List.length_map]
    exact Nat.le_trans (List.length_filter_le _ _) (by simp)
  refine holds_strs (Sort.holds_putRow encStr (Sort.ahead w q) g 0 zs.toArray _ (fun j hj => hH j hj) (by simp; omega)) ?_
  rw [List.getElem?_append_left (List.getElem?_eq_some_iff.1 hk).1]
  exact hk
def SortRel (w : World) (l : List (List UInt8)) (k : Nat) (v i : Value) (wr : World) : Prop :=
  ∃ m R, m + k = l.length ∧ i = .int .i64 (m : Int) ∧ StrRow wr w.heap.size v R ∧ R.length ≤ m ∧ (∀ x, x ∈ R ↔ x ∈ l.take m ∧ (catOf x).isSome = true) ∧ Below w.heap.size w wr
theorem take_mem {l : List (List UInt8)} {m : Nat} {y : List UInt8} (h : l[m]? = some y) (x : List UInt8) : x ∈ l.take (m + 1) ↔ x ∈ l.take m ∨ x = y := by
  rw [List.take_add_one, h]
  simp
set_option maxRecDepth 100000 in
set_option maxHeartbeats 2000000 in
theorem sort_any {w : World} {A : Option Addr} {c : Nat} {l : List (List UInt8)} (he : Env w) (hl : Strs w w.heap.size A l) (hx : ∀ x ∈ l, x.length ≤ 140737488351232) (hn : l.length ≤ 100000000) :
    Calls Tryz.prog 105 #[.slice A l.length c] w (RetSort w l) := by
  have HE := Lib.hid he
  have HL := Lib.hid hl
  have HX := Lib.hid hx
  clear he hl hx
  go_enter Tryz.func105, Tryz.ntmps105
  go_wp2_with fail
  go_loopg [3, 8] l.length (fun k v i wr => SortRel w l k v i wr)
  case atStart => exact ⟨0, [], by simp, rfl, World.ownsRow_nil _ _ _ _, by simp, by simp, Below.refl _ _⟩
  case round =>
    obtain ⟨m, R, hmk, hi, hrow, hRm, hmem, hb⟩ := hrel
    subst hi
    have HR := Lib.hid hrow
    have HB := Lib.hid hb
    have HM := Lib.hid hmem
    have EW := Lib.hid (HE.out.on hb)
    have hsz := hb.size
    cases gk with
    | zero =>
      have hge : l.length ≤ m := by omega
      have HM2 : Hid (∀ x, x ∈ R ↔ x ∈ l ∧ (catOf x).isSome = true) := by
        have := hmem
        rwa [List.take_of_length_le hge] at this
      have h0 : wr.ownsRow w.heap.size 9 1 _ R.length (strCellsOf R) := hrow
      rcases h0.2 with ⟨rfl, hR0⟩ | ⟨g, cap, cur, rfl, _⟩
      · have hRn : R = [] := List.eq_nil_of_length_eq_zero hR0
        subst hRn
        have H32 : Hid (Calls Tryz.prog 145 #[.slice none 0 0, .func (.func 103) #[] #[]] wr fun e w' => e = .returned (.tuple #[]) ∧ w' = wr) := AnyF.slices_SortFunc_none (P := Tryz.prog) (ρ := Tryz.sortL_ren) { Tryz.sortL with } none 0 (.func (.func 103) #[] #[]) wr
        have H33 := Lib.hid (Tryz.slices_Compact_string_empty none 0 wr)
        clear hrow hb hmem h0
        go_wp2_with (first
          | (go_at_call 145; refine H32.out.mono ?_; rintro e w' ⟨rfl, rfl⟩)
          | (go_at_call 146; refine H33.out.mono ?_; rintro e w' ⟨rfl, rfl⟩))
        go_ret
        exact ⟨HB.out, none, 0, [], rfl, fun _ => rfl, fun h => absurd h (by simp), List.Pairwise.nil, HM2.out⟩
      · have H32 := Lib.hid (sortFunc_any EW.out HE.out.1 hrow (fun x h => ((HM2.out x).1 h).2) (by omega))
        have hg1 := (World.ownsRow.lt hrow g rfl).1
        clear hrow hb hmem h0
        go_wp2_with fail
        refine H32.out.mono ?_
        rintro e w1 ⟨rfl, hb1, zs, hzl, hzr, hzm, hzh, hgs, hcap⟩
        have H33 := Lib.hid (compact_any (B := w.heap.size) (cap := cap) hzh hgs hg1 (by omega) (by omega) hzr)
        rw [hzl] at H33
        have B1 := Lib.hid (HB.out.trans hb1)
        have HZ := Lib.hid hzm
        clear hb1 hzr hzm hzh H32
        go_wp2_with fail
        refine H33.out.mono ?_
        rintro e w2 ⟨hb2, R2, rfl, hs2, hr2, hm2⟩
        have B2 := Lib.hid (B1.out.trans hb2)
        have S2 := Lib.hid hs2
        have R2' := Lib.hid hr2
        have M2 := Lib.hid hm2
        clear hb2 hs2 hr2 hm2 H33
        go_wp2_with fail
        go_ret
        exact ⟨B2.out, _, _, R2, rfl, (fun h => by cases h), S2.out, R2'.out, fun x => ((M2.out x).trans (HZ.out x)).trans (HM2.out x)⟩
    | succ j =>
      have hm : m < l.length := by omega
      obtain ⟨x, hx⟩ : ∃ x, l[m]? = some x := ⟨_, List.getElem?_eq_getElem hm⟩
      obtain ⟨b, o, rfl, hlt, hcells⟩ := HL.out (by omega)
      have cx := (hb.cell (p := ⟨b, o + m, none⟩) hlt).trans (hcells m x hx)
      have hxl := HX.out x (List.mem_of_getElem? hx)
      have H10 := Lib.hid (right_any EW.out hxl)
      have HT := Lib.hid (take_mem hx)
      have HMK := Lib.hid hmk
      cases hc : (catOf x).isSome with
      | false =>
        have HN : Hid (∀ y, y ∈ R ↔ y ∈ l.take (m + 1) ∧ (catOf y).isSome = true) := fun y => by
          rw [HT.out y, HM.out y]
          constructor
          · rintro ⟨h1, h2⟩; exact ⟨.inl h1, h2⟩
          · rintro ⟨h1 | h1, h2⟩
            · exact ⟨h1, h2⟩
            · subst h1; rw [hc] at h2; cases h2
        rw [hc] at H10
        clear hx hcells hmk hb hrow hmem hc
        go_wp2_with fail
        refine H10.out.mono ?_
        rintro e w1 ⟨rfl, hb1⟩
        have B1 := Lib.hid (HB.out.trans (hb1.mono HB.out.size))
        have R1 := Lib.hid (HR.out.below hb1)
        clear hb1 cx H10
        go_wp2_with fail
        go_roundg j
        case measure => omega
        case rel => exact ⟨m + 1, R, by have := HMK.out; omega, by go_num, R1.out, by omega, HN.out, B1.out⟩
      | true =>
        have HN : Hid (∀ y, y ∈ R ++ [x] ↔ y ∈ l.take (m + 1) ∧ (catOf y).isSome = true) := fun y => by
          rw [HT.out y, List.mem_append, HM.out y, List.mem_singleton]
          constructor
          · rintro (⟨h1, h2⟩ | h1)
            · exact ⟨.inl h1, h2⟩
            · subst h1; exact ⟨.inr rfl, hc⟩
          · rintro ⟨h1 | h1, h2⟩
            · exact .inl ⟨h1, h2⟩
            · exact .inr h1
        rw [hc] at H10
        clear hx hcells hmk hb hrow hmem hc
        go_wp2_with fail
        refine H10.out.mono ?_
        rintro e w1 ⟨rfl, hb1⟩
        have B1 := Lib.hid (HB.out.trans (hb1.mono HB.out.size))
        have R1 := Lib.hid (HR.out.below hb1)
        have hs1 := B1.out.size
        clear hb1 cx H10
        have hle : R.length + 1 ≤ 100000001 := by omega
        have hbase : w.heap.size ≤ (w1.alloc (.cells #[.string (str x)] 9)).heap.size := by simp; omega
        go_wp2_with (first
          | (at_builtin; refine wpList_append_one rfl _ _ rfl w.heap.size _ R rfl (World.ownsRow.alloc R1.out _) ⟨w1.heap.size, 0, none⟩ x rfl (cell_one_new _ _ _) hle hbase ?_))
        intro v' w2 hown hb2
        have R2 := Lib.hid hown
        have B2 := Lib.hid ((B1.out.alloc B1.out.size _).trans hb2)
        clear hown hb2
        go_wp2_with fail
        go_roundg j
        case measure => omega
        case rel => exact ⟨m + 1, R ++ [x], by have := HMK.out; omega, by go_num, R2.out, by simp; omega, HN.out, B2.out⟩
end Go.Proofs.YtgcbfggoddkhnaaGreatDoor

namespace Go.Proofs.YtgcbfggoddkhnaaGreatDoor
open Go.RowKit
theorem own_cat_len {l : List (List UInt8)} (h : OwnL l) : ∀ x ∈ l, x.length ≤ 140737488351232 := fun x hx => cat_len (h.2.2 x hx)
set_option maxRecDepth 100000 in
theorem ownRight_any {w : World} {A : Option Addr} {c : Nat} {l : List (List UInt8)} (he : Env w) (hl : SL w A c l) :
    Calls Tryz.prog 61 #[.slice A l.length c] w (RetB w (.bool (decide (OwnL l)))) := by
  have HL := Lib.hid hl
  have hn := hl.len
  have H38 := Lib.hid (sort_any (c := c) he hl.strs hl.txt (by omega))
  clear he hl
  by_cases h8 : 8 < l.length
  · have HD : Hid (decide (OwnL l) = false) := decide_eq_false fun h => by have := h.1; omega
    have hle : ¬ ((l.length : Int) ≤ 8) := by omega
    go_enter Tryz.func61, Tryz.ntmps61
    go_wp2_with fail
    go_ret
    exact ⟨by rw [HD.out] <;> rfl, Below.refl _ _⟩
  have hle : (l.length : Int) ≤ 8 := by omega
  have h8' : l.length ≤ 8 := by omega
  clear h8
  go_enter Tryz.func61, Tryz.ntmps61
  go_wp2_with fail
  refine H38.out.mono ?_
  rintro e w1 ⟨hb1, A1, c1, R, rfl, hnil, hs1, hr1, hm1⟩
  have HD := Lib.hid (own_sort h8' hr1 hm1)
  have L1 := Lib.hid (HL.out.on hb1)
  have B1 := Lib.hid hb1
  have H43 := Lib.hid (equalS_any (c := c) (c' := c1) L1.out.strs hs1 hn)
  rw [HD.out] at H43
  clear hb1 hnil hs1 hr1 hm1 H38
  go_wp2_with fail
  refine H43.out.mono ?_
  rintro e w2 ⟨rfl, hb2⟩
  have B2 : Hid (Below w.heap.size w w2) := B1.out.trans (hb2.mono B1.out.size)
  clear hb2 H43
  go_wp2_with fail
  go_ret
  exact ⟨rfl, B2.out⟩
end Go.Proofs.YtgcbfggoddkhnaaGreatDoor

namespace Go.Proofs.YtgcbfggoddkhnaaGreatDoor
open Go.RowKit
def Sl (w : World) (F : Nat → Prop) (A : Option Addr) (cs : List Value) : Prop :=
  0 < cs.length → ∃ b o, A = some ⟨b, o, none⟩ ∧ ¬ F b ∧ b < w.heap.size ∧ ∀ (k : Nat) (u : Value), cs[k]? = some u → w.cell? ⟨b, o + k, none⟩ = some u
theorem Sl.kp {S F F' : Nat → Prop} {w w' : World} {A : Option Addr} {cs : List Value} (h : Sl w F A cs) (hk : Tp.Kp S w w') (hS : ∀ b, b < w.heap.size → S b → F b) (hF : ∀ b, b < w.heap.size → F' b → F b) : Sl w' F' A cs := fun hp => by
  obtain ⟨b, o, hA, hb, hlt, hc⟩ := h hp
  exact ⟨b, o, hA, fun h => hb (hF b hlt h), Nat.lt_of_lt_of_le hlt hk.size, fun k u hu => hk.cell (hc k u hu) (fun h => hb (hS b hlt h))⟩
theorem Sl.on {F F' : Nat → Prop} {w w' : World} {A : Option Addr} {cs : List Value} (h : Sl w F A cs) (hb : Below w.heap.size w w') (hF : ∀ b, b < w.heap.size → F' b → F b) : Sl w' F' A cs :=
  h.kp (Tp.Kp.of_below hb fun _ => False) (fun _ _ h => h.elim) hF
def SlV (w : World) (F : Nat → Prop) (v : Value) (n : Nat) (cs : List Value) : Prop := ∃ A c, v = .slice A n c ∧ (A = none → c = 0) ∧ n ≤ c ∧ Sl w F A cs
theorem SlV.kp {S F F' : Nat → Prop} {w w' : World} {v : Value} {n : Nat} {cs : List Value} (h : SlV w F v n cs) (hk : Tp.Kp S w w') (hS : ∀ b, b < w.heap.size → S b → F b) (hF : ∀ b, b < w.heap.size → F' b → F b) : SlV w' F' v n cs := by
  obtain ⟨A, c, h1, h2, h3, h4⟩ := h
  exact ⟨A, c, h1, h2, h3, h4.kp hk hS hF⟩
theorem SlV.on {F F' : Nat → Prop} {w w' : World} {v : Value} {n : Nat} {cs : List Value} (h : SlV w F v n cs) (hb : Below w.heap.size w w') (hF : ∀ b, b < w.heap.size → F' b → F b) : SlV w' F' v n cs :=
  h.kp (Tp.Kp.of_below hb fun _ => False) (fun _ _ h => h.elim) hF
theorem SlV.nil (w : World) (F : Nat → Prop) : SlV w F (.slice none 0 0) 0 [] := ⟨none, 0, rfl, fun _ => rfl, Nat.le_refl _, fun h => absurd h (by simp)⟩
theorem slv_row {w : World} {base : Nat} {e : TypeId} {size : Nat} {v : Value} {n : Nat} {xs : List Value} (h : w.ownsRow base e size v n xs) : SlV w (fun b => b < base) v n xs := by
  rcases h.2 with ⟨rfl, he⟩ | ⟨g, cap, cur, rfl, hb, hh, hle, _⟩
  · subst he
    have : xs = [] := List.eq_nil_of_length_eq_zero (by have := h.1; omega)
    subst this
    exact SlV.nil _ _
  · refine ⟨_, cap, rfl, (fun h => by cases h), hle, fun _ => ⟨g, 0, rfl, by omega, (h.lt g rfl).2, fun k u hu => ?_⟩⟩
    have := h.cells (g := g) rfl k u hu
    rwa [Go.WideShapes.add_plain] at this
def kidCells : List Kd → List Value
  | [] => []
  | k :: r => .int .i64 k.1 :: .int .i64 k.2.1 :: .int .i64 k.2.2 :: kidCells r
theorem kidCells_append (a b : List Kd) : kidCells (a ++ b) = kidCells a ++ kidCells b := by
  induction a with
  | nil => rfl
  | cons x r ih => simp [kidCells, ih]
theorem kidCells_length (l : List Kd) : (kidCells l).length = l.length * 3 := by
  induction l with
  | nil => rfl
  | cons x r ih => simp [kidCells, ih]; omega
theorem kidCells_at {l : List Kd} {k : Nat} {x : Kd} (h : l[k]? = some x) : (kidCells l)[k * 3]? = some (.int .i64 x.1) ∧ (kidCells l)[k * 3 + 1]? = some (.int .i64 x.2.1) ∧ (kidCells l)[k * 3 + 2]? = some (.int .i64 x.2.2) := by
  induction l generalizing k with
  | nil => simp at h
  | cons y r ih =>
    cases k with
    | zero => simp at h; subst h; simp [kidCells]
    | succ k =>
      have := ih (k := k) (by simpa using h)
      rw [show (k + 1) * 3 = k * 3 + 1 + 1 + 1 by omega]
      simpa [kidCells] using this
theorem kidCells_one (l : List Kd) : ∀ u ∈ kidCells l, u.oneCell' = true := by
  induction l with
  | nil => intro u hu; simp [kidCells] at hu
  | cons y r ih =>
    intro u hu
    simp only [kidCells, List.mem_cons] at hu
    rcases hu with rfl | rfl | rfl | hu
    · rfl
    · rfl
    · rfl
    · exact ih u hu
def MapsV (w : World) (F : Nat → Prop) (v : Value) (ms : List Mp) : Prop :=
  ∃ A c, v = .slice A ms.length c ∧ (A = none → c = 0) ∧ ms.length ≤ c ∧ (0 < ms.length → ∃ b o, A = some ⟨b, o, none⟩ ∧ ¬ F b ∧ b < w.heap.size ∧ ∀ (k : Nat) (m : Mp), ms[k]? = some m →
    w.cell? ⟨b, o + k * 3, none⟩ = some (.int .i64 m.1) ∧ (∃ s, w.cell? ⟨b, o + k * 3 + 1, none⟩ = some s ∧ SlV w F s m.2.1.length (Pa.zCellsOf m.2.1)) ∧ w.cell? ⟨b, o + k * 3 + 2, none⟩ = some (.bool m.2.2))
theorem MapsV.kp {S F F' : Nat → Prop} {w w' : World} {v : Value} {ms : List Mp} (h : MapsV w F v ms) (hk : Tp.Kp S w w') (hS : ∀ b, b < w.heap.size → S b → F b) (hF : ∀ b, b < w.heap.size → F' b → F b) : MapsV w' F' v ms := by
  obtain ⟨A, c, h1, h2, h3, h4⟩ := h
  refine ⟨A, c, h1, h2, h3, fun hp => ?_⟩
  obtain ⟨b, o, hA, hb, hlt, hc⟩ := h4 hp
  refine ⟨b, o, hA, fun h => hb (hF b hlt h), Nat.lt_of_lt_of_le hlt hk.size, fun k m hm => ?_⟩
  obtain ⟨c1, ⟨s, c2, hs⟩, c3⟩ := hc k m hm
  have hn : ¬ S b := fun h => hb (hS b hlt h)
  exact ⟨hk.cell c1 hn, ⟨s, hk.cell c2 hn, hs.kp hk hS hF⟩, hk.cell c3 hn⟩
theorem MapsV.on {F F' : Nat → Prop} {w w' : World} {v : Value} {ms : List Mp} (h : MapsV w F v ms) (hb : Below w.heap.size w w') (hF : ∀ b, b < w.heap.size → F' b → F b) : MapsV w' F' v ms :=
  h.kp (Tp.Kp.of_below hb fun _ => False) (fun _ _ h => h.elim) hF
theorem MapsV.nil (w : World) (F : Nat → Prop) : MapsV w F (.slice none 0 0) [] := ⟨none, 0, rfl, fun _ => rfl, Nat.le_refl _, fun h => absurd h (by simp)⟩
def ObjK (w : World) (F : Nat → Prop) (v vk : Value) (o : Ob) : Prop :=
  ∃ vl vb vo ve vm, v = .agg #[.int .i64 o.kind, vl, vk, .int .i64 o.next, vb, vo, .int .i64 o.cats, ve, .int .i64 o.ring, vm] ∧ SlV w F vl o.lab.length (entCells o.lab) ∧ SlV w F vb o.bytes.length (Tp.cellsOf o.bytes) ∧
    SlV w F vo o.own.length (strCellsOf o.own) ∧ SlV w F ve o.entry.length (entCells o.entry) ∧ MapsV w F vm o.maps
theorem ObjK.kp {S F F' : Nat → Prop} {w w' : World} {v vk : Value} {o : Ob} (h : ObjK w F v vk o) (hk : Tp.Kp S w w') (hS : ∀ b, b < w.heap.size → S b → F b) (hF : ∀ b, b < w.heap.size → F' b → F b) : ObjK w' F' v vk o := by
  obtain ⟨vl, vb, vo, ve, vm, h1, h2, h3, h4, h5, h6⟩ := h
  exact ⟨vl, vb, vo, ve, vm, h1, h2.kp hk hS hF, h3.kp hk hS hF, h4.kp hk hS hF, h5.kp hk hS hF, h6.kp hk hS hF⟩
theorem ObjK.on {F F' : Nat → Prop} {w w' : World} {v vk : Value} {o : Ob} (h : ObjK w F v vk o) (hb : Below w.heap.size w w') (hF : ∀ b, b < w.heap.size → F' b → F b) : ObjK w' F' v vk o :=
  h.kp (Tp.Kp.of_below hb fun _ => False) (fun _ _ h => h.elim) hF
def ObjAt (w : World) (F : Nat → Prop) (v : Value) (o : Ob) : Prop := ∃ vk, ObjK w F v vk o ∧ SlV w F vk o.kids.length (kidCells o.kids)
theorem ObjAt.kp {S F F' : Nat → Prop} {w w' : World} {v : Value} {o : Ob} (h : ObjAt w F v o) (hk : Tp.Kp S w w') (hS : ∀ b, b < w.heap.size → S b → F b) (hF : ∀ b, b < w.heap.size → F' b → F b) : ObjAt w' F' v o := by
  obtain ⟨vk, h1, h2⟩ := h
  exact ⟨vk, h1.kp hk hS hF, h2.kp hk hS hF⟩
theorem ObjAt.on {F F' : Nat → Prop} {w w' : World} {v : Value} {o : Ob} (h : ObjAt w F v o) (hb : Below w.heap.size w w') (hF : ∀ b, b < w.heap.size → F' b → F b) : ObjAt w' F' v o :=
  h.kp (Tp.Kp.of_below hb fun _ => False) (fun _ _ h => h.elim) hF
abbrev No : Nat → Prop := fun _ => False
theorem ObjAt.read {F : Nat → Prop} {w w' : World} {v : Value} {o : Ob} (h : ObjAt w F v o) (hb : Below w.heap.size w w') : ObjAt w' No v o := h.on hb fun _ _ h => h.elim
def W64 (z : Int) : Prop := -9223372036854775808 ≤ z ∧ z ≤ 9223372036854775807
structure WideO (o : Ob) : Prop where
  kind : W64 o.kind
  next : W64 o.next
  cats : W64 o.cats
  ring : W64 o.ring
  lab : o.lab.length ≤ 1048576 ∧ ∀ e ∈ o.lab, e.1.length ≤ 1048576 ∧ W64 e.2
  kids : o.kids.length ≤ 1048576 ∧ ∀ k ∈ o.kids, W64 k.1 ∧ W64 k.2.1 ∧ W64 k.2.2
  bytes : o.bytes.length ≤ 1048576 ∧ Tp.Sml o.bytes
  own : o.own.length ≤ 1048576 ∧ ∀ x ∈ o.own, x.length ≤ 1048576
  entry : o.entry.length ≤ 1048576 ∧ ∀ e ∈ o.entry, e.1.length ≤ 1048576 ∧ W64 e.2
  maps : o.maps.length ≤ 1048576 ∧ ∀ m ∈ o.maps, W64 m.1 ∧ m.2.1.length ≤ 1048576 ∧ Pa.WideZ m.2.1
theorem Sl.ents {w : World} {F : Nat → Prop} {A : Option Addr} {l : List Ent} (h : Sl w F A (entCells l)) : Ents w w.heap.size A l := fun hp => by
  obtain ⟨b, o, hA, _, hlt, hc⟩ := h (by rw [entCells_length]; omega)
  refine ⟨b, o, hA, hlt, fun k s n hk => ?_⟩
  obtain ⟨e1, e2⟩ := entCells_at hk
  exact ⟨hc _ _ e1, by rw [Nat.add_assoc]; exact hc _ _ e2⟩
theorem Sl.strs {w : World} {F : Nat → Prop} {A : Option Addr} {l : List (List UInt8)} (h : Sl w F A (strCellsOf l)) : Strs w w.heap.size A l := fun hp => by
  obtain ⟨b, o, hA, _, hlt, hc⟩ := h (by unfold strCellsOf; rw [List.length_map]; exact hp)
  exact ⟨b, o, hA, hlt, fun k x hk => hc _ _ (by simp [strCellsOf, hk])⟩
theorem Sl.bts {w : World} {F : Nat → Prop} {A : Option Addr} {l : List Nat} (h : Sl w F A (Tp.cellsOf l)) : Tp.Bts w w.heap.size A l := fun hp => by
  obtain ⟨b, o, hA, _, hlt, hc⟩ := h (by rw [Tp.cellsOf_length]; exact hp)
  exact ⟨b, o, hA, hlt, fun k x hk => hc _ _ (Tp.cellsOf_at hk)⟩
theorem Sl.zs {w : World} {F : Nat → Prop} {A : Option Addr} {l : List Int} (h : Sl w F A (Pa.zCellsOf l)) : Pa.Zs w w.heap.size A l := fun hp => by
  obtain ⟨b, o, hA, _, hlt, hc⟩ := h (by unfold Pa.zCellsOf; rw [List.length_map]; exact hp)
  exact ⟨b, o, hA, hlt, fun k x hk => hc _ _ (by simp [Pa.zCellsOf, hk])⟩
theorem SlV.lab {w : World} {F : Nat → Prop} {v : Value} {l : List Ent} (h : SlV w F v l.length (entCells l)) (hw : l.length ≤ 1048576 ∧ ∀ e ∈ l, e.1.length ≤ 1048576 ∧ W64 e.2) : ∃ A c, v = .slice A l.length c ∧ Lab w A c l := by
  obtain ⟨A, c, h1, h2, h3, h4⟩ := h
  exact ⟨A, c, h1, h4.ents, h2, fun e he => Nat.le_trans (hw.2 e he).1 (by omega), Nat.le_trans hw.1 (by unfold maxLen; omega)⟩
theorem SlV.sl {w : World} {F : Nat → Prop} {v : Value} {l : List (List UInt8)} (h : SlV w F v l.length (strCellsOf l)) (hw : l.length ≤ 1048576 ∧ ∀ x ∈ l, x.length ≤ 1048576) : ∃ A c, v = .slice A l.length c ∧ SL w A c l := by
  obtain ⟨A, c, h1, h2, h3, h4⟩ := h
  exact ⟨A, c, h1, h4.strs, h2, fun x hx => Nat.le_trans (hw.2 x hx) (by omega), Nat.le_trans hw.1 (by omega)⟩
theorem SlV.pl {w : World} {F : Nat → Prop} {v : Value} {l : List Int} (h : SlV w F v l.length (Pa.zCellsOf l)) (hw : Pa.WideZ l) : ∃ A c, v = .slice A l.length c ∧ Pa.PL w A c l := by
  obtain ⟨A, c, h1, h2, h3, h4⟩ := h
  exact ⟨A, c, h1, h4.zs, h2, h3, hw⟩
end Go.Proofs.YtgcbfggoddkhnaaGreatDoor

namespace Go.Proofs.YtgcbfggoddkhnaaGreatDoor
open Go.RowKit
def BoxAt (W : World) (b : Nat) (cs : Array Value) (t : TypeId) : Prop := W.heap[b]? = some (.cells cs t (0, 0))
theorem BoxAt.new (w : World) (cs : Array Value) (t : TypeId) : BoxAt (w.alloc (.cells cs t)) w.heap.size cs t := heap_alloc_new w _
theorem BoxAt.lt {W : World} {b : Nat} {cs : Array Value} {t : TypeId} (h : BoxAt W b cs t) : b < W.heap.size := (Array.getElem?_eq_some_iff.1 h).1
theorem BoxAt.on {W W' : World} {b : Nat} {cs : Array Value} {t : TypeId} (h : BoxAt W b cs t) (hb : Below W.heap.size W W') : BoxAt W' b cs t := (hb.block b h.lt).trans h
theorem BoxAt.below {W W' : World} {b B : Nat} {cs : Array Value} {t : TypeId} (h : BoxAt W b cs t) (hb : Below B W W') (hB : b < B) : BoxAt W' b cs t := (hb.block b hB).trans h
theorem BoxAt.kp {S : Nat → Prop} {W W' : World} {b : Nat} {cs : Array Value} {t : TypeId} (h : BoxAt W b cs t) (hk : Tp.Kp S W W') (hS : ¬ S b) : BoxAt W' b cs t := (hk.block b h.lt hS).trans h
theorem BoxAt.alloc {W : World} {b : Nat} {cs : Array Value} {t : TypeId} (h : BoxAt W b cs t) (o : Obj) : BoxAt (W.alloc o) b cs t := h.on ((Below.refl _ _).alloc (Nat.le_refl _) _)
theorem BoxAt.drew {W : World} {b : Nat} {cs : Array Value} {t : TypeId} (h : BoxAt W b cs t) : BoxAt W.drew b cs t := h
theorem BoxAt.cell {W : World} {b : Nat} {cs : Array Value} {t : TypeId} (h : BoxAt W b cs t) {k : Nat} {v : Value} (hk : cs[k]? = some v) : W.cell? ⟨b, k, none⟩ = some v := by
  simp [World.cell?, show W.heap[b]? = _ from h, hk]
theorem BoxAt.frozen {W : World} {b : Nat} {cs : Array Value} {t : TypeId} (h : BoxAt W b cs t) (k : Nat) : W.frozen? ⟨b, k, none⟩ = false := by simp [World.frozen?, show W.heap[b]? = _ from h]
theorem BoxAt.set {W : World} {b : Nat} {cs : Array Value} {t : TypeId} (h : BoxAt W b cs t) (k : Nat) (v : Value) : BoxAt (W.setCell ⟨b, k, none⟩ v) b (cs.setIfInBounds k v) t := by
  obtain ⟨hlt, hk⟩ := Array.getElem?_eq_some_iff.1 h
  show (W.heap.modify b _)[b]? = _
  rw [Array.getElem?_eq_getElem (by rw [Array.size_modify]; exact hlt), Array.getElem_modify_self, hk]
  rfl
theorem within_any (n most : Int) (w : World) : Calls Tryz.prog 60 #[.int .i64 n, .int .i64 most] w fun e w' => e = .returned (.bool (decide (0 ≤ n ∧ n ≤ most))) ∧ w = w' := by
  by_cases h0 : 0 ≤ n
  · by_cases h1 : n ≤ most
    · rw [decide_eq_true ⟨h0, h1⟩]
      go_enter Tryz.func60, Tryz.ntmps60
      go_wp2_with fail
      go_ret
      exact ⟨by simp, rfl⟩
    · rw [decide_eq_false fun h => h1 h.2]
      go_enter Tryz.func60, Tryz.ntmps60
      go_wp2_with fail
      go_ret
      exact ⟨by simp, rfl⟩
  · rw [decide_eq_false fun h => h0 h.1]
    go_enter Tryz.func60, Tryz.ntmps60
    go_wp2_with fail
    go_ret
    exact ⟨by simp, rfl⟩
end Go.Proofs.YtgcbfggoddkhnaaGreatDoor

namespace Go.Proofs.YtgcbfggoddkhnaaGreatDoor
open Go.RowKit
def R9 : Value → Option (DataW Value × List MemPlace) := fun v => some (.held v, [])
theorem law9 : Maps.Keyed Tryz.prog 9 := Maps.string_keyed Tryz.underlying9
def zeroO : Value := .agg #[.int .i64 0, .slice none 0 0, .slice none 0 0, .int .i64 0, .slice none 0 0, .slice none 0 0, .int .i64 0, .slice none 0 0, .int .i64 0, .slice none 0 0]
theorem zero29 (w : World) : (zeroValue 29).run Tryz.prog w = .ok zeroO w := Tryz.zeroValue29 w
theorem key9 {x : List UInt8} (hx : x.length ≤ 100000000000) : keyOf Tryz.prog 9 (.string (str x)) = some (.string x) := by
  rw [keyOf_string Tryz.underlying9]
  have h : (str x).size ≤ maxLen := by rw [str_size]; unfold maxLen; omega
  unfold mapKey
  rw [Tryz.underlying9]
  simp only [h, if_true, str_list]
abbrev TT := List UInt8 → Option Ob
def MapV (w : World) (b n : Nat) (T : TT) (V : List UInt8 → Value) : Prop :=
  ∃ D : DataW Value, w.ownsMap Tryz.prog 9 R9 b n D ∧ ∀ s : List UInt8, (T s = none ∧ Maps.has D (.string s) = false) ∨ ((T s).isSome = true ∧ Maps.has D (.string s) = true ∧ ∀ z, D.atKey (.string s) z = .held (V s))
theorem MapV.lt {w : World} {b n : Nat} {T : TT} {V : List UInt8 → Value} (h : MapV w b n T V) : b < w.heap.size := by
  obtain ⟨D, h, _⟩ := h
  exact h.lt
theorem MapV.of_block {w w' : World} {b n : Nat} {T : TT} {V : List UInt8 → Value} (h : MapV w b n T V) (hb : w'.heap[b]? = w.heap[b]?) : MapV w' b n T V := by
  obtain ⟨D, ⟨es, clock, h1, h2⟩, h3⟩ := h
  exact ⟨D, ⟨es, clock, hb.trans h1, h2⟩, h3⟩
theorem MapV.on {w w' : World} {b n : Nat} {T : TT} {V : List UInt8 → Value} (h : MapV w b n T V) (hb : Below w.heap.size w w') : MapV w' b n T V := h.of_block (hb.block b h.lt)
theorem MapV.kp {S : Nat → Prop} {w w' : World} {b n : Nat} {T : TT} {V : List UInt8 → Value} (h : MapV w b n T V) (hk : Tp.Kp S w w') (hS : ¬ S b) : MapV w' b n T V := h.of_block (hk.block b h.lt hS)
theorem MapV.more {w : World} {b n m : Nat} {T : TT} {V : List UInt8 → Value} (h : MapV w b n T V) (hn : n ≤ m) : MapV w b m T V := by
  obtain ⟨D, h1, h3⟩ := h
  exact ⟨D, h1.mono hn, h3⟩
theorem MapV.ne {w : World} {b n : Nat} {T : TT} {V : List UInt8 → Value} (h : MapV w b n T V) {a : Addr} {v : Value} (hc : w.cell? a = some v) : a.block ≠ b := fun e => by
  obtain ⟨D, ⟨es, clock, h1, _⟩, _⟩ := h
  rw [← e] at h1
  simp [World.cell?, h1] at hc
theorem MapV.made (w : World) : MapV (w.alloc (.map #[] 0)) w.heap.size 0 (fun _ => none) fun _ => undef :=
  ⟨.map [], World.ownsMap_made w _ _ _, fun _ => .inl ⟨rfl, rfl⟩⟩
def lookV (T : TT) (V : List UInt8 → Value) (s : List UInt8) : Value := match T s with
  | some _ => V s
  | none => zeroO
set_option maxRecDepth 100000 in
theorem MapV.look {w : World} {b n : Nat} {T : TT} {V : List UInt8 → Value} (h : MapV w b n T V) {s : List UInt8} (hs : s.length ≤ 100000000000) :
    (Instr.lookup 72 (.map (some b)) (.string (str s)) true).run Tryz.prog w = .ok (.tuple #[lookV T V s, .bool (T s).isSome]) w := by
  obtain ⟨D, h, h3⟩ := h
  obtain ⟨v, ps, hrun, hat⟩ := h.look_ok law9 Tryz.underlying72 (zero29 w) (zd := .held zeroO) (zp := []) rfl (key9 hs)
  rw [hrun]
  have hv : DataW.held v = D.atKey (.string s) (.held zeroO) := by
    unfold R9 at hat
    injection hat with hat
    injection hat
  rcases h3 s with ⟨h4, h5⟩ | ⟨h4, h5, h6⟩
  · rw [Maps.atKey_of_not_has h5] at hv
    injection hv with hv
    rw [h5, hv]
    unfold lookV
    rw [h4]
    rfl
  · rw [h6] at hv
    injection hv with hv
    rw [h5, hv]
    unfold lookV
    obtain ⟨o, ho⟩ := Option.isSome_iff_exists.1 h4
    rw [ho]
    rfl
set_option maxRecDepth 100000 in
theorem MapV.look1 {w : World} {b n : Nat} {T : TT} {V : List UInt8 → Value} (h : MapV w b n T V) {s : List UInt8} (hs : s.length ≤ 100000000000) :
    (Instr.lookup 72 (.map (some b)) (.string (str s)) false).run Tryz.prog w = .ok (lookV T V s) w := by
  obtain ⟨D, h, h3⟩ := h
  obtain ⟨v, ps, hrun, hat⟩ := h.lookup law9 Tryz.underlying72 (zero29 w) (zd := .held zeroO) (zp := []) rfl (key9 hs)
  rw [hrun]
  have hv : DataW.held v = D.atKey (.string s) (.held zeroO) := by
    unfold R9 at hat
    injection hat with hat
    injection hat
  rcases h3 s with ⟨h4, h5⟩ | ⟨h4, h5, h6⟩
  · rw [Maps.atKey_of_not_has h5] at hv
    injection hv with hv
    rw [hv]
    unfold lookV
    rw [h4]
  · rw [h6] at hv
    injection hv with hv
    rw [hv]
    unfold lookV
    obtain ⟨o, ho⟩ := Option.isSome_iff_exists.1 h4
    rw [ho]
def updT (T : TT) (s : List UInt8) (o : Ob) : TT := fun x => if x = s then some o else T x
def updV (V : List UInt8 → Value) (s : List UInt8) (v : Value) : List UInt8 → Value := fun x => if x = s then v else V x
def delT (T : TT) (s : List UInt8) : TT := fun x => if x = s then none else T x
noncomputable def putW (b : Nat) (s : List UInt8) (v : Value) (w : World) : World := match (Instr.mapUpdate 72 (.map (some b)) (.string (str s)) v).run Tryz.prog w with
  | .ok _ w' => w'
  | .halt _ w' => w'
theorem MapV.put {w : World} {b n : Nat} {T : TT} {V : List UInt8 → Value} (h : MapV w b n T V) (hn : n ≤ 100000000000) {s : List UInt8} (hs : s.length ≤ 100000000000) (v : Value) :
    (Instr.mapUpdate 72 (.map (some b)) (.string (str s)) v).run Tryz.prog w = .ok () (putW b s v w) ∧ (∀ o, MapV (putW b s v w) b (n + 1) (updT T s o) (updV V s v)) ∧ w.grownBy (putW b s v w) (some b) := by
  obtain ⟨D, h, h3⟩ := h
  obtain ⟨w', hrun, h1, h2⟩ := h.update (R := R9) law9 Tryz.underlying72 (by unfold maxLen; omega) (key9 hs) (val := v) (d := .held v) (ps := []) rfl
  have e : putW b s v w = w' := by unfold putW; rw [hrun]
  rw [e]
  refine ⟨hrun, fun o => ⟨_, h1, fun y => ?_⟩, h2⟩
  unfold updT updV
  by_cases e : y = s
  · subst e
    rw [if_pos rfl, if_pos rfl]
    exact .inr ⟨rfl, Maps.has_put_same h.isMap (by simp [WideAt.IsKeyLit]) _, fun d => Maps.atKey_put_same h.isMap (by simp [WideAt.IsKeyLit]) _ _⟩
  · rw [if_neg e, if_neg e]
    have hne : (Lit.string y) ≠ .string s := fun h => e (by injection h with h)
    rcases h3 y with ⟨h4, h5⟩ | ⟨h4, h5, h6⟩
    · exact .inl ⟨h4, by rw [Maps.has_put_other hne, h5]⟩
    · exact .inr ⟨h4, by rw [Maps.has_put_other hne, h5], fun d => by rw [Maps.atKey_put_other hne, h6]⟩
noncomputable def delW (b : Nat) (s : List UInt8) (w : World) : World := match (Builtin.delete_ #[72, 9] 0 #[.map (some b), .string (str s)]).run Tryz.prog w with
  | .ok _ w' => w'
  | .halt _ w' => w'
theorem MapV.del {w : World} {b n : Nat} {T : TT} {V : List UInt8 → Value} (h : MapV w b n T V) {s : List UInt8} (hs : s.length ≤ 100000000000) (ty : TypeId) :
    ∃ w', (Builtin.delete_ #[72, 9] ty #[.map (some b), .string (str s)]).run Tryz.prog w = .ok (.tuple #[]) w' ∧ MapV w' b n (delT T s) V ∧ w.grownBy w' (some b) := by
  obtain ⟨D, h, h3⟩ := h
  obtain ⟨w', hrun, h1, h2⟩ := h.drop law9 Tryz.underlying72 (key9 hs) ty
  refine ⟨w', hrun, ⟨_, h1, fun y => ?_⟩, h2.grown⟩
  unfold delT
  by_cases e : y = s
  · subst e
    rw [if_pos rfl]
    exact .inl ⟨rfl, Maps.has_del_same⟩
  · rw [if_neg e]
    have hne : (Lit.string y) ≠ .string s := fun h => e (by injection h with h)
    rcases h3 y with ⟨h4, h5⟩ | ⟨h4, h5, h6⟩
    · exact .inl ⟨h4, by rw [Maps.has_del_other hne, h5]⟩
    · exact .inr ⟨h4, by rw [Maps.has_del_other hne, h5], fun d => by rw [Maps.atKey_del_other hne, h6]⟩
end Go.Proofs.YtgcbfggoddkhnaaGreatDoor

namespace Go.Proofs
open Go.Shelf
def Tryz.lays156_ren : Go.Shelf.Ren := ⟨fun | 156 => 111 | 165 => 151 | 166 => 152 | 169 => 153 | 240 => 180 | 241 => 181 | 276 => 211 | 277 => 212 | n => n, fun | 31 => 26 | 9 => 9 | 3 => 3 | 4 => 4 | 0 => 0 | 20 => 20 | 72 => 194 | 76 => 161 | 70 => 192 | 37 => 25 | 75 => 160 | 127 => 219 | 164 => 248 | 5 => 5 | 80 => 115 | n => n, fun | n => n⟩
theorem Tryz.lays156 : Go.Proofs.Lays.n156 Tryz.prog Tryz.lays156_ren := {
  mixed := by kernel_rfl
  f156 := Tryz.func111.trans (congrArg some (by kernel_rfl))
  f165 := Tryz.func151.trans (congrArg some (by kernel_rfl))
  f166 := Tryz.func152.trans (congrArg some (by kernel_rfl))
  f169 := Tryz.func153.trans (congrArg some (by kernel_rfl))
  f240 := Tryz.func180.trans (congrArg some (by kernel_rfl))
  f241 := Tryz.func181.trans (congrArg some (by kernel_rfl))
  f276 := Tryz.func211.trans (congrArg some (by kernel_rfl))
  f277 := Tryz.func212.trans (congrArg some (by kernel_rfl))
  t0 := Tryz.underlying0
  a0 := Tryz.isAgg0
  z0 := Tryz.sizeOf0
  v0 := Tryz.zeroValue0
  t3 := Tryz.underlying3
  a3 := Tryz.isAgg3
  z3 := Tryz.sizeOf3
  v3 := Tryz.zeroValue3
  t4 := Tryz.underlying4
  a4 := Tryz.isAgg4
  z4 := Tryz.sizeOf4
  v4 := Tryz.zeroValue4
  t9 := Tryz.underlying9
  a9 := Tryz.isAgg9
  z9 := Tryz.sizeOf9
  v9 := Tryz.zeroValue9
  t20 := Tryz.underlying20
  a20 := Tryz.isAgg20
  z20 := Tryz.sizeOf20
  v20 := Tryz.zeroValue20
  t31 := Tryz.underlying26
  a31 := Tryz.isAgg26
  z31 := Tryz.sizeOf26
  v31 := Tryz.zeroValue26
  t37 := Tryz.underlying25
  a37 := Tryz.isAgg25
  z37 := Tryz.sizeOf25
  v37 := Tryz.zeroValue25
  t70 := Tryz.underlying192
  a70 := Tryz.isAgg192
  z70 := Tryz.sizeOf192
  v70 := Tryz.zeroValue192
  t72 := Tryz.underlying194
  a72 := Tryz.isAgg194
  z72 := Tryz.sizeOf194
  v72 := Tryz.zeroValue194
  t75 := Tryz.underlying160
  a75 := Tryz.isAgg160
  z75 := Tryz.sizeOf160
  v75 := Tryz.zeroValue160
  t76 := Tryz.underlying161
  a76 := Tryz.isAgg161
  z76 := Tryz.sizeOf161
  v76 := Tryz.zeroValue161
  t127 := Tryz.underlying219
  a127 := Tryz.isAgg219
  z127 := Tryz.sizeOf219
  v127 := Tryz.zeroValue219
  t164 := Tryz.underlying248
  a164 := Tryz.isAgg248
  z164 := Tryz.sizeOf248
  v164 := Tryz.zeroValue248 }
theorem Tryz.Builder_Extra_156 : Builder.Extra Tryz.prog Tryz.lays156_ren := {
  sizeBuilder := by kernel_rfl
  liesBuilder := by kernel_rfl
  t5 := Tryz.underlying5
  a5 := Tryz.isAgg5
  z5 := Tryz.sizeOf5
  v5 := Tryz.zeroValue5
  infoByte := by kernel_rfl
  cellsByte := by kernel_rfl
  sizeByte := by kernel_rfl
  neB5 := by decide }
open Go.RowKit in
theorem Tryz.strings_Join (bk o c : Nat) (xs : List ByteArray) (sep : ByteArray) (w : World) (hcells : ∀ (j : Nat) x, xs[j]? = some x → w.cell? ⟨bk, o + j, none⟩ = some (.string x)) (hbk : bk < w.heap.size) (hN : xs.length ≤ 140737488355328) (hcap : xs.length ≤ c) (hlen : (Lib.join (xs.map (·.data.toList)) sep.data.toList).length ≤ 140737488355328) :
    Calls Tryz.prog 111 #[.slice (some ⟨bk, o, none⟩) xs.length c, .string sep] w fun e w' => e = .returned (.string ⟨(Lib.join (xs.map (·.data.toList)) sep.data.toList).toArray⟩) ∧ Below w.heap.size w w' := Any.strings_Join Tryz.lays156 Tryz.Builder_Extra_156 bk o c xs sep w hcells hbk hN hcap hlen
end Go.Proofs

namespace Go.Proofs.YtgcbfggoddkhnaaGreatDoor.Pa
open Go.RowKit
theorem dec_len21 {u : Nat} (h : u ≤ 9223372036854775808) : (Lib.decDigits u).length ≤ 21 := by
  have h1 := Lib.itoa_length_le (-(u : Int)) (by omega) (by omega)
  by_cases h0 : u = 0
  · subst h0
    rw [Lib.decDigits_one (by omega)]
    simp
  · unfold Lib.itoa at h1
    rw [if_pos (by omega)] at h1
    simp at h1
    omega
def NumPos (u : Nat) (w : World) (k : Nat) (a s : Value) (wr : World) : Prop :=
  ∃ (v : Nat) (r : List UInt8), v = k ∧ v ≤ 9223372036854775807 ∧ a = .int .i64 (v : Int) ∧ s = .string (str r) ∧ Lib.decDigits v ++ r = Lib.decDigits u ∧ w = wr
set_option maxRecDepth 100000 in
theorem num_pos {u : Nat} (h : u ≤ 9223372036854775807) (w : World) : Calls Tryz.prog 139 #[.int .i64 (u : Int)] w fun e w' => e = .returned (.string (str (Lib.decDigits u))) ∧ w = w' := by
  have HL := Lib.hid (dec_len21 (u := u) (by omega))
  go_enter Tryz.func139, Tryz.ntmps139
  go_wp2_with fail
  go_loopg [0, 4] u (fun k a s wr => NumPos u w k a s wr)
  case atStart => exact ⟨u, [], rfl, h, rfl, rfl, by simp, rfl⟩
  case round =>
    obtain ⟨v, r, hk, hv, ha, hs, hd, hw⟩ := hrel
    subst hk ha hs hw
    have hlen : (Lib.decDigits v).length + r.length ≤ 21 := by
      have := HL.out
      rw [← hd, List.length_append] at this
      exact this
    have hp := dec_pos v
    by_cases h10 : v < 10
    · have q1 := dig_slice h10
      have q2 := str_add [UInt8.ofNat (48 + v)] r (by simp; omega)
      have HD : Hid ([UInt8.ofNat (48 + v)] ++ r = Lib.decDigits u) := by rw [← hd, Lib.decDigits_one h10]; exact rfl
      obtain ⟨c, hc⟩ : ∃ c, c = str [UInt8.ofNat (48 + v)] := ⟨_, rfl⟩
      rw [← hc] at q1 q2
      rw [HD.out] at q2
      clear hc hd hlen hp
      go_wp2_with fail
      go_ret
      exact ⟨rfl, rfl⟩
    · have hge : 10 ≤ v := by omega
      obtain ⟨d, hde⟩ : ∃ d, d = v % 10 := ⟨_, rfl⟩
      obtain ⟨q, hqe⟩ : ∃ q, q = v / 10 := ⟨_, rfl⟩
      have hd10 : d < 10 := by omega
      have hql : q < v := by omega
      have e1 : (v : Int) % 10 = (d : Int) := by omega
      have e2 : (v : Int) / 10 = (q : Int) := by omega
      have e3 : Int.tmod (v : Int) 10 = (d : Int) := by rw [Int.tmod_eq_emod_of_nonneg (by omega)]; exact e1
      have e4 : Int.tdiv (v : Int) 10 = (q : Int) := by rw [Int.tdiv_eq_ediv_of_nonneg (by omega)]; exact e2
      have q1 := dig_slice hd10
      have q2 := str_add [UInt8.ofNat (48 + d)] r (by simp; omega)
      have HD : Hid (Lib.decDigits q ++ ([UInt8.ofNat (48 + d)] ++ r) = Lib.decDigits u) := by
        rw [Hid, ← hd, dec_big hge, ← hde, ← hqe, List.append_assoc]
      obtain ⟨c, hc⟩ : ∃ c, c = str [UInt8.ofNat (48 + d)] := ⟨_, rfl⟩
      obtain ⟨r2, hr2⟩ : ∃ r2, r2 = [UInt8.ofNat (48 + d)] ++ r := ⟨_, rfl⟩
      rw [← hc, ← hr2] at q2
      rw [← hc] at q1
      rw [← hr2] at HD
      clear hc hr2 hd hlen hp hde hqe h10
      go_wp2_with fail
      go_roundg q
      case measure => omega
      case rel => exact ⟨q, r2, rfl, by omega, rfl, rfl, HD.out, rfl⟩
def NumNeg (u : Nat) (w : World) (k : Nat) (a s : Value) (wr : World) : Prop :=
  ∃ (v : Nat) (z : Int) (r : List UInt8), v = k ∧ 1 ≤ v ∧ v ≤ 9223372036854775808 ∧ z = -(v : Int) ∧ a = .int .i64 z ∧ s = .string (str r) ∧ Lib.decDigits v ++ r = Lib.decDigits u ∧ w = wr
set_option maxRecDepth 100000 in
theorem num_neg {u : Nat} (h1 : 1 ≤ u) (h : u ≤ 9223372036854775808) (w : World) : Calls Tryz.prog 139 #[.int .i64 (-(u : Int))] w fun e w' => e = .returned (.string (str (45 :: Lib.decDigits u))) ∧ w = w' := by
  have HL := Lib.hid (dec_len21 (u := u) (by omega))
  obtain ⟨z0, hz0⟩ : ∃ z : Int, z = -(u : Int) := ⟨_, rfl⟩
  rw [← hz0]
  have hlt0 : z0 < 0 := by omega
  have HZ0 := Lib.hid hz0
  clear hz0
  go_enter Tryz.func139, Tryz.ntmps139
  go_wp2_with fail
  go_loopg [0, 3] u (fun k a s wr => NumNeg u w k a s wr)
  case atStart => exact ⟨u, z0, [], rfl, h1, h, HZ0.out, rfl, rfl, by simp, rfl⟩
  case round =>
    obtain ⟨v, z, r, hk, hv1, hv, hz, ha, hs, hd, hw⟩ := hrel
    subst hk ha hs hw
    have hlen : (Lib.decDigits v).length + r.length ≤ 21 := by
      have := HL.out
      rw [← hd, List.length_append] at this
      exact this
    have hp := dec_pos v
    have HZ := Lib.hid hz
    by_cases h10 : v < 10
    · have q1 := dig_slice h10
      have q2 := str_add [45] [UInt8.ofNat (48 + v)] (by simp)
      have q3 := str_add ([45] ++ [UInt8.ofNat (48 + v)]) r (by simp; omega)
      have HD : Hid ([45] ++ [UInt8.ofNat (48 + v)] ++ r = 45 :: Lib.decDigits u) := by rw [← hd, Lib.decDigits_one h10]; exact rfl
      have hgt : ¬ z ≤ -10 := by omega
      have n1 : -z = (v : Int) := by omega
      have q0 : str [45] = ⟨#[45]⟩ := by decide
      obtain ⟨c, hc⟩ : ∃ c, c = str [UInt8.ofNat (48 + v)] := ⟨_, rfl⟩
      obtain ⟨c2, hc2⟩ : ∃ c2, c2 = str ([45] ++ [UInt8.ofNat (48 + v)]) := ⟨_, rfl⟩
      rw [← hc] at q1 q2
      rw [← hc2] at q2 q3
      rw [q0] at q2
      rw [HD.out] at q3
      have hzb : -9 ≤ z ∧ z ≤ -1 := by omega
      clear hc hc2 hd hlen hp hz q0 h10
      go_wp2_with fail
      go_ret
      exact ⟨rfl, rfl⟩
    · have hge : 10 ≤ v := by omega
      obtain ⟨d, hde⟩ : ∃ d, d = v % 10 := ⟨_, rfl⟩
      obtain ⟨q, hqe⟩ : ∃ q, q = v / 10 := ⟨_, rfl⟩
      obtain ⟨y, hy⟩ : ∃ y : Int, y = -(d : Int) := ⟨_, rfl⟩
      obtain ⟨zq, hzq⟩ : ∃ zq : Int, zq = -(q : Int) := ⟨_, rfl⟩
      have hd10 : d < 10 := by omega
      have hql : q < v := by omega
      have e3 : Int.tmod z 10 = y := by
        rw [hz, Int.neg_tmod, Int.tmod_eq_emod_of_nonneg (by omega), hy]
        omega
      have e4 : Int.tdiv z 10 = zq := by
        rw [hz, Int.neg_tdiv, Int.tdiv_eq_ediv_of_nonneg (by omega), hzq]
        omega
      have n1 : -y = (d : Int) := by omega
      have hyb : -9 ≤ y ∧ y ≤ 0 := by omega
      have hle : z ≤ -10 := by omega
      have hzqb : -922337203685477580 ≤ zq ∧ zq ≤ 0 := by omega
      have q1 := dig_slice hd10
      have q2 := str_add [UInt8.ofNat (48 + d)] r (by simp; omega)
      have HD : Hid (Lib.decDigits q ++ ([UInt8.ofNat (48 + d)] ++ r) = Lib.decDigits u) := by
        rw [Hid, ← hd, dec_big hge, ← hde, ← hqe, List.append_assoc]
      have HQ : Hid (1 ≤ q ∧ zq = -(q : Int)) := ⟨by omega, hzq⟩
      obtain ⟨c, hc⟩ : ∃ c, c = str [UInt8.ofNat (48 + d)] := ⟨_, rfl⟩
      obtain ⟨r2, hr2⟩ : ∃ r2, r2 = [UInt8.ofNat (48 + d)] ++ r := ⟨_, rfl⟩
      rw [← hc, ← hr2] at q2
      rw [← hc] at q1
      rw [← hr2] at HD
      clear hc hr2 hd hlen hp hde hqe h10 hz hy hzq
      go_wp2_with fail
      go_roundg q
      case measure => omega
      case rel => exact ⟨q, zq, r2, rfl, HQ.out.1, by omega, HQ.out.2, rfl, rfl, HD.out, rfl⟩
theorem num_all {n : Int} (h0 : -9223372036854775808 ≤ n) (h1 : n ≤ 9223372036854775807) (w : World) : Calls Tryz.prog 99 #[.int .i64 n] w fun e w' => e = .returned (.string (str (Lib.itoa n))) ∧ w = w' := by
  have H : Hid (Calls Tryz.prog 139 #[.int .i64 n] w fun e w' => e = .returned (.string (str (Lib.itoa n))) ∧ w = w') := by
    by_cases hn : n < 0
    · have e : n = -(n.natAbs : Int) := by omega
      have := num_neg (u := n.natAbs) (by omega) (by omega) w
      rw [← e] at this
      unfold Lib.itoa
      rw [if_pos hn]
      exact this
    · have e : n = (n.toNat : Int) := by omega
      have := num_pos (u := n.toNat) (by omega) w
      rw [← e] at this
      unfold Lib.itoa
      rw [if_neg hn]
      exact this
  go_enter Tryz.func99, Tryz.ntmps99
  go_wp2_with (go_at_call 139; refine H.out.mono ?_; rintro e w' ⟨rfl, rfl⟩)
  go_ret
  exact ⟨rfl, rfl⟩
end Go.Proofs.YtgcbfggoddkhnaaGreatDoor.Pa

namespace Go.Proofs.YtgcbfggoddkhnaaGreatDoor.Pa
open Go.RowKit
theorem StrRow.alloc {w : World} {B : Nat} {v : Value} {R : List (List UInt8)} (h : StrRow w B v R) (o : Obj) : StrRow (w.alloc o) B v R := World.ownsRow.alloc h o
set_option maxRecDepth 100000 in
theorem joinNil_any (w : World) : Calls Tryz.prog 111 #[.slice none 0 0, .string ⟨#[46]⟩] w fun e w' => e = .returned (.string (str [])) ∧ Below w.heap.size w w' := by
  go_enter Tryz.func111, Tryz.ntmps111
  go_wp2_with fail
  go_ret
  exact ⟨rfl, Below.refl _ _⟩
theorem join_any {w : World} {B : Nat} {v : Value} {R : List (List UInt8)} (h : StrRow w B v R) (hn : R.length ≤ 100000000) (hl : (Lib.join R [46]).length ≤ 140737488351232) :
    Calls Tryz.prog 111 #[v, .string ⟨#[46]⟩] w fun e w' => e = .returned (.string (str (Lib.join R [46]))) ∧ Below w.heap.size w w' := by
  have h0 : w.ownsRow B 9 1 v R.length (strCellsOf R) := h
  rcases h0.2 with ⟨hv, he⟩ | ⟨g, cap, cur, hv, hb, hh, hle, _⟩
  · have hR : R = [] := List.length_eq_zero_iff.1 he
    subst hv hR
    exact joinNil_any w
  · obtain ⟨A, c, hv2, hs⟩ := h.strs
    rw [hv] at hv2 ⊢
    injection hv2 with hA _ hc
    subst hA
    have hcells : ∀ (j : Nat) x, (R.map str)[j]? = some x → w.cell? ⟨g, 0 + j, none⟩ = some (.string x) := fun j x hx => by
      rw [List.getElem?_map] at hx
      obtain ⟨y, hy, rfl⟩ := Option.map_eq_some_iff.1 hx
      obtain ⟨b, o, hbo, _, hc2⟩ := hs (by have := (List.getElem?_eq_some_iff.1 hy).1; omega)
      injection hbo with hbo
      injection hbo with e1 e2
      subst e1 e2
      exact hc2 j y hy
    have e1 : (R.map str).map (fun x : ByteArray => x.data.toList) = R := by simp [Function.comp_def, str_list]
    have J := Tryz.strings_Join g 0 cap (R.map str) ⟨#[46]⟩ w hcells (World.ownsRow.lt h g (by rw [hv]; rfl)).2 (by simp; omega) (by simpa using hle) (by rw [e1]; show (Lib.join R [46]).length ≤ _; omega)
    rw [e1, List.length_map] at J
    exact J
def TxRel (w : World) (zs : List Int) (k : Nat) (v i : Value) (wr : World) : Prop :=
  ∃ m, m + k = zs.length ∧ i = .int .i64 (m : Int) ∧ StrRow wr w.heap.size v ((zs.take m).map Lib.itoa) ∧ Below w.heap.size w wr
set_option maxRecDepth 100000 in
theorem text_any {w : World} {A : Option Addr} {c : Nat} {zs : List Int} (he : Env w) (h : Zs w w.heap.size A zs) (hw : WideZ zs) (hn : zs.length ≤ 10000000) :
    Calls Tryz.prog 68 #[.slice A zs.length c] w (RetB w (.string (str (zText zs)))) := by
  have HE := Lib.hid he
  have HZ := Lib.hid h
  have HW := Lib.hid hw
  clear he h hw
  go_enter Tryz.func68, Tryz.ntmps68
  go_wp2_with fail
  go_loopg [3, 8] zs.length (fun k v i wr => TxRel w zs k v i wr)
  case atStart => exact ⟨0, by simp, rfl, World.ownsRow_nil _ _ _ _, Below.refl _ _⟩
  case round =>
    obtain ⟨m, hmk, hi', hown, hb⟩ := hrel
    subst hi'
    have HB := Lib.hid hb
    cases gk with
    | zero =>
      have hge : zs.length ≤ m := by omega
      rw [List.take_of_length_le hge] at hown
      have hj := join_any hown (by simp; omega) (by
        have := zText_len HW.out
        unfold zText at this
        omega)
      have HJ : Hid (Calls Tryz.prog 111 #[_, .string ⟨#[46]⟩] wr fun e w' => e = .returned (.string (str (zText zs))) ∧ Below wr.heap.size wr w') := hj
      clear hown hb hj
      go_wp2_with fail
      refine HJ.out.mono ?_
      rintro e w' ⟨rfl, hj⟩
      have HJ2 := Lib.hid hj
      clear hj HJ
      go_wp2_with fail
      go_ret
      exact ⟨rfl, HB.out.trans (HJ2.out.mono HB.out.size)⟩
    | succ j =>
      have hm : m < zs.length := by omega
      obtain ⟨z, hx⟩ : ∃ x, zs[m]? = some x := ⟨_, List.getElem?_eq_getElem hm⟩
      obtain ⟨b, o, rfl, hlt, hcells⟩ := (HZ.out.below hb) (by omega)
      have c1 := hcells m z hx
      have hmem := List.mem_of_getElem? hx
      have hzw := HW.out z hmem
      have hsz := hb.size
      have HM := Lib.hid hmk
      have HX := Lib.hid hx
      have HI := Lib.hid (itoa_any (n := z) (HE.out.on hb) hzw.1 hzw.2)
      obtain ⟨R, hR⟩ : ∃ R, R = (zs.take m).map Lib.itoa := ⟨_, rfl⟩
      rw [← hR] at hown
      have HR := Lib.hid hown
      have hlen : R.length = m := by rw [hR]; simp; omega
      have HRR := Lib.hid hR
      clear hcells hx hmk hb hown hmem hzw hR
      go_wp2_with fail
      refine HI.out.mono ?_
      rintro e w2 ⟨rfl, hb2⟩
      have HR2 := Lib.hid ((HR.out.below hb2).alloc (.cells #[.string (str (Lib.itoa z))] 9))
      have HB2 : Hid (Below w.heap.size w (w2.alloc (.cells #[.string (str (Lib.itoa z))] 9))) := (HB.out.trans (hb2.mono hsz)).alloc (by have := hb2.size; omega) _
      have hsz2 : w.heap.size ≤ (w2.alloc (.cells #[.string (str (Lib.itoa z))] 9)).heap.size := by have := hb2.size; simp; omega
      have hle : R.length + 1 ≤ 100000001 := by omega
      clear hb2 HI HR hlen
      go_wp2_with (at_builtin; refine wpList_append_one rfl _ _ rfl w.heap.size _ _ rfl HR2.out ⟨w2.heap.size, 0, none⟩ (Lib.itoa z) rfl (cell_one_new _ _ _) hle hsz2 ?_)
      intro v' w3 hr3 hb3
      have HR3 := Lib.hid hr3
      have HB3 := Lib.hid (HB2.out.trans hb3)
      clear hr3 hb3
      go_wp2_with fail
      go_roundg j
      case measure => omega
      case rel =>
        refine ⟨m + 1, by have := HM.out; omega, by go_num, ?_, HB3.out⟩
        rw [take_snoc HX.out, List.map_append, ← HRR.out]
        exact HR3.out
def RtRel (w : World) (zs : List Int) (k : Nat) (s i : Value) (wr : World) : Prop :=
  ∃ m, m + k = zs.length ∧ i = .int .i64 (m : Int) ∧ s = .string (str (zText (zs.take m))) ∧ w = wr
set_option maxRecDepth 100000 in
theorem refText_any {w : World} {A : Option Addr} {c : Nat} {zs : List Int} (h : Zs w w.heap.size A zs) (hw : WideZ zs) (hn : zs.length ≤ 1000) :
    Calls Tryz.prog 34 #[.slice A zs.length c] w fun e w' => e = .returned (.string (str (zText zs))) ∧ w = w' := by
  have HZ := Lib.hid h
  have HW := Lib.hid hw
  clear h hw
  go_enter Tryz.func34, Tryz.ntmps34
  go_wp2_with fail
  go_loopg [3, 8] zs.length (fun k s i wr => RtRel w zs k s i wr)
  case atStart => exact ⟨0, by simp, rfl, rfl, rfl⟩
  case round =>
    obtain ⟨m, hmk, hi', hs, hww⟩ := hrel
    subst hi' hs hww
    cases gk with
    | zero =>
      have hge : zs.length ≤ m := by omega
      rw [List.take_of_length_le hge]
      go_wp2_with fail
      go_ret
      exact ⟨rfl, rfl⟩
    | succ j =>
      have hm : m < zs.length := by omega
      obtain ⟨z, hx⟩ : ∃ x, zs[m]? = some x := ⟨_, List.getElem?_eq_getElem hm⟩
      obtain ⟨b, o, rfl, hlt, hcells⟩ := HZ.out (by omega)
      have c1 := hcells m z hx
      have hzw := HW.out z (List.mem_of_getElem? hx)
      have HM := Lib.hid hmk
      have HI := Lib.hid (num_all hzw.1 hzw.2 w)
      obtain ⟨T, hT⟩ : ∃ T, T = zText (zs.take m) := ⟨_, rfl⟩
      have hTl : T.length ≤ 22000 := by
        rw [hT]
        have := zText_len (HW.out.take m)
        simp at this
        omega
      obtain ⟨I, hI⟩ : ∃ I, I = Lib.itoa z := ⟨_, rfl⟩
      have hIl : I.length ≤ 21 := by rw [hI]; exact Lib.itoa_length_le z hzw.1 hzw.2
      rw [← hI] at HI
      rw [← hT]
      by_cases h0 : m = 0
      · have HT0 : Hid (T = []) := by rw [Hid, hT, h0]; rfl
        have HN : Hid (zText (zs.take (m + 1)) = I) := by rw [Hid, take_snoc hx, hI, h0]; exact zText_one z
        have a2 : ∀ W : World, (Op.stringOp .add (str T) (str I)).run Tryz.prog W = .ok (.string (str I)) W := fun W => by
          have := str_add T I (by omega) W
          rw [HT0.out] at this ⊢
          exact this
        have hpos : ¬ (0 : Int) < (m : Int) := by omega
        clear hcells hx hzw hT hI hmk h0
        go_wp2_with (go_at_call 99; refine HI.out.mono ?_; rintro e w' ⟨rfl, rfl⟩)
        go_roundg j
        case measure => omega
        case rel => exact ⟨m + 1, by have := HM.out; omega, by go_num, by rw [HN.out], rfl⟩
      · have HN : Hid (zText (zs.take (m + 1)) = T ++ [46] ++ I) := by
          rw [Hid, take_snoc hx, hI, hT]
          have h2 : (zs.take m).length = m := by simp; omega
          exact zText_snoc (fun e => by rw [e] at h2; simp at h2; omega) z
        have a1 : ∀ W : World, (Op.stringOp .add (str T) ⟨#[46]⟩).run Tryz.prog W = .ok (.string (str (T ++ [46]))) W := fun W => str_add T [46] (by simp; omega) W
        have a2 : ∀ W : World, (Op.stringOp .add (str (T ++ [46])) (str I)).run Tryz.prog W = .ok (.string (str (T ++ [46] ++ I))) W := fun W => str_add (T ++ [46]) I (by simp; omega) W
        obtain ⟨X, hX⟩ : ∃ X, X = T ++ [46] ++ I := ⟨_, rfl⟩
        rw [← hX] at a2 HN
        have hpos : (0 : Int) < (m : Int) := by omega
        clear hcells hx hzw hT hI hmk hX h0
        go_wp2_with (go_at_call 99; refine HI.out.mono ?_; rintro e w' ⟨rfl, rfl⟩)
        go_roundg j
        case measure => omega
        case rel => exact ⟨m + 1, by have := HM.out; omega, by go_num, by rw [HN.out], rfl⟩
end Go.Proofs.YtgcbfggoddkhnaaGreatDoor.Pa

namespace Go.Proofs.YtgcbfggoddkhnaaGreatDoor
open Go.RowKit
set_option maxRecDepth 100000 in
set_option maxHeartbeats 4000000 in
theorem fields_any {w : World} {F : Nat → Prop} {v : Value} {o : Ob} (h : ObjAt w F v o) : Calls Tryz.prog 63 #[v] w fun e w' => e = .returned (.bool (decide (FieldsOk o))) ∧ Below w.heap.size w w' := by
  obtain ⟨vk, ⟨vl, vb, vo, ve, vm, rfl, ⟨Al, cl, rfl, -⟩, ⟨Ab, cb, rfl, -⟩, ⟨Ao, co, rfl, -⟩, ⟨Ae, ce, rfl, -⟩, ⟨Am, cm, rfl, -⟩⟩, ⟨Ak, ck, rfl, -⟩⟩ := h
  obtain ⟨nk, hnk⟩ : ∃ n, n = o.kids.length := ⟨_, rfl⟩
  obtain ⟨nb, hnb⟩ : ∃ n, n = o.bytes.length := ⟨_, rfl⟩
  obtain ⟨no, hno⟩ : ∃ n, n = o.own.length := ⟨_, rfl⟩
  obtain ⟨ne, hne⟩ : ∃ n, n = o.entry.length := ⟨_, rfl⟩
  obtain ⟨nm, hnm⟩ : ∃ n, n = o.maps.length := ⟨_, rfl⟩
  obtain ⟨k, hkk⟩ : ∃ n, n = o.kind := ⟨_, rfl⟩
  obtain ⟨nx, hnx⟩ : ∃ n, n = o.next := ⟨_, rfl⟩
  obtain ⟨ca, hca⟩ : ∃ n, n = o.cats := ⟨_, rfl⟩
  obtain ⟨ri, hri⟩ : ∃ n, n = o.ring := ⟨_, rfl⟩
  have HD : Hid (decide (FieldsOk o) = decide ((k = 1 ∨ nk = 0 ∧ nx = 0) ∧ (k = 2 ∨ nb = 0) ∧ (k = 3 ∨ k = 4 ∨ no = 0) ∧ (k = 3 ∨ ca = 0) ∧ (k = 4 ∨ ne = 0 ∧ ri = 0) ∧ (k = 5 ∨ nm = 0))) := by
    refine decide_eq_decide.2 ?_
    unfold FieldsOk
    rw [hnk, hnb, hno, hne, hnm, hkk, hnx, hca, hri]
  rw [HD.out]
  rw [← hnk, ← hnb, ← hno, ← hne, ← hnm, ← hkk, ← hnx, ← hca, ← hri]
  clear HD hnk hnb hno hne hnm hkk hnx hca hri
  go_enter Tryz.func63, Tryz.ntmps63
  go_wp2_with fail
  all_goals (go_ret; refine ⟨?_, (Below.refl _ _).alloc (Nat.le_refl _) _⟩; congr 2; simp_all <;> (by_cases hh : nm = 0 <;> simp_all))
end Go.Proofs.YtgcbfggoddkhnaaGreatDoor

namespace Go.Proofs.YtgcbfggoddkhnaaGreatDoor
open Go.RowKit
def KrRel (w : World) (o : Ob) (k : Nat) (t i : Value) (wr : World) : Prop :=
  ∃ (m : Nat) (L : Int), m + k = o.kids.length ∧ i = .int .i64 (m : Int) ∧ t = .int .i64 L ∧ (∀ x ∈ o.kids.take m, KidOk o.next x) ∧ (o.kids.take m).Pairwise (fun a b => a.1 < b.1) ∧ 0 ≤ L ∧ (m = 0 → L = 0) ∧ (∀ x ∈ o.kids.take m, x.1 < L) ∧ (0 < m → ∃ x ∈ o.kids.take m, x.1 + 1 = L) ∧ Below w.heap.size w wr
theorem take_mem' {α : Type} {l : List α} {m : Nat} {y : α} (h : l[m]? = some y) {x : α} : x ∈ l.take (m + 1) ↔ x ∈ l.take m ∨ x = y := by
  rw [List.take_add_one, h]
  simp
set_option maxRecDepth 100000 in
set_option maxHeartbeats 2000000 in
theorem kidsRight_any {w : World} {F : Nat → Prop} {v : Value} {o : Ob} (h : ObjAt w F v o) (hw : WideO o) : Calls Tryz.prog 59 #[v] w (RetB w (.bool (decide (KidsOk o.next o.kids)))) := by
  obtain ⟨vk, ⟨vl, vb, vo, ve, vm, rfl, -, -, -, -, -⟩, ⟨A, c, rfl, -, -, hs⟩⟩ := h
  have hkd := hw.kids.2
  have hnx := hw.next
  have HW := Lib.hid hkd
  have HN : Hid (W64 o.next) := hnx
  clear hw hkd
  obtain ⟨cs, hcs⟩ : ∃ cs : Array Value, cs = #[.int .i64 o.kind, vl, .slice A o.kids.length c, .int .i64 o.next, vb, vo, .int .i64 o.cats, ve, .int .i64 o.ring, vm] := ⟨_, rfl⟩
  have hb0 : Below w.heap.size w (w.alloc (.cells cs 29)) := (Below.refl _ _).alloc (Nat.le_refl _) _
  have hx0 := BoxAt.new w cs 29
  have k2 : cs[2]? = some (.slice A o.kids.length c) := by rw [hcs]; rfl
  have k3 : cs[3]? = some (.int .i64 o.next) := by rw [hcs]; rfl
  have HB0 := Lib.hid hb0
  have HX0 := Lib.hid hx0
  have HK2 := Lib.hid k2
  have HK3 := Lib.hid k3
  have HS := Lib.hid hs
  have HC := Lib.hid hcs
  clear hs hb0 hx0 k2 k3 hcs
  by_cases h16 : 16 < o.kids.length
  · have HD : Hid (decide (KidsOk o.next o.kids) = false) := decide_eq_false fun h => by have := h.1; omega
    go_enter Tryz.func59, Tryz.ntmps59
    go_wp2_with fail
    go_ret
    exact ⟨by rw [HD.out] <;> rfl, by rw [← HC.out]; exact HB0.out⟩
  · have h16' : ¬ (16 : Int) < (o.kids.length : Int) := by omega
    go_enter Tryz.func59, Tryz.ntmps59
    go_wp2_with fail
    go_loopg [3, 13] o.kids.length (fun k t i wr => KrRel w o k t i wr ∧ BoxAt wr w.heap.size cs 29)
    case atStart => exact ⟨⟨0, 0, by simp, rfl, rfl, by simp, by simp, by omega, fun _ => rfl, by simp, fun h => by omega, by rw [← HC.out]; exact HB0.out⟩, by rw [← HC.out]; exact HX0.out⟩
    case round =>
      obtain ⟨⟨m, L, hmk, hi, ht, hok, hpw, hL0, hm0, hlt, hex, hb⟩, hbx⟩ := hrel
      subst hi ht
      have HOK := Lib.hid hok
      have HPW := Lib.hid hpw
      have HLT := Lib.hid hlt
      have HEX := Lib.hid hex
      have HM0 := Lib.hid hm0
      have HB := Lib.hid hb
      have HBX := Lib.hid hbx
      cases gk with
      | zero =>
        have hge : o.kids.length ≤ m := by omega
        have HD : Hid (decide (KidsOk o.next o.kids) = true) := by
          rw [List.take_of_length_le hge] at hok hpw
          exact decide_eq_true ⟨by omega, hok, hpw⟩
        clear hok hpw hlt hex hm0 hb hbx
        go_wp2_with fail
        go_ret
        exact ⟨by rw [HD.out] <;> rfl, HB.out⟩
      | succ j =>
        have hm : m < o.kids.length := by omega
        obtain ⟨x, hx⟩ : ∃ x, o.kids[m]? = some x := ⟨_, List.getElem?_eq_getElem hm⟩
        have hmem := List.mem_of_getElem? hx
        obtain ⟨e1, e2, e3⟩ := kidCells_at hx
        obtain ⟨b, of, rfl, -, hltb, hc⟩ := HS.out (by rw [kidCells_length]; omega)
        obtain ⟨n, kd, q⟩ := x
        have d1 := (hb.cell (p := ⟨b, of + m * 3, none⟩) hltb).trans (hc _ _ e1)
        have d2 := (hb.cell (p := ⟨b, of + (m * 3 + 1), none⟩) hltb).trans (hc _ _ e2)
        have d3 := (hb.cell (p := ⟨b, of + (m * 3 + 2), none⟩) hltb).trans (hc _ _ e3)
        rw [← Nat.add_assoc] at d2 d3
        have b2 := hbx.cell HK2.out
        have b3 := fun O => (hbx.alloc O).cell HK3.out
        have hn64 : W64 n := (HW.out _ hmem).1
        have hN := HN.out
        have n1 : -9223372036854775808 ≤ n := hn64.1
        have n2 : n ≤ 9223372036854775807 := hn64.2
        have n3 : o.next ≤ 9223372036854775807 := hN.2
        have H60 := Lib.hid (fun W => within_any q 1048576 W)
        have HMK := Lib.hid hmk
        have HX := Lib.hid hx
        have hszw : w.heap.size + 1 ≤ wr.heap.size := hbx.lt
        have hne : ¬ wr.heap.size = w.heap.size := by omega
        have hne2 : ¬ w.heap.size = wr.heap.size := by omega
        have hal : Hid (∀ O, Below (w.heap.size + 1) wr (wr.alloc O)) := fun O => (Below.refl _ _).alloc (by omega) _
        have NO : ∀ (p : ¬ KidOk o.next (n, kd, q)), decide (KidsOk o.next o.kids) = false := fun p => decide_eq_false fun h => p (h.2.1 _ hmem)
        clear hok hpw hlt hex hm0 hb hbx hc e1 e2 e3 hmk hN hn64
        by_cases t1 : n < L
        · have HD : Hid (decide (KidsOk o.next o.kids) = false) := decide_eq_false fun h => by
            by_cases hmz : m = 0
            · have := HM0.out hmz
              have := (h.2.1 _ hmem).1.1
              simp at this
              omega
            · obtain ⟨y, hy, hyL⟩ := HEX.out (by omega)
              obtain ⟨i, hi⟩ := List.mem_iff_getElem?.1 hy
              rw [List.getElem?_take] at hi
              split at hi
              · rename_i him
                obtain ⟨hil, e⟩ := List.getElem?_eq_some_iff.1 hi
                obtain ⟨hml, e'⟩ := List.getElem?_eq_some_iff.1 HX.out
                have := List.pairwise_iff_getElem.1 h.2.2 i m hil hml him
                rw [e, e'] at this
                simp at this
                omega
              · cases hi
          clear hmem hx NO
          go_wp2_with fail
          go_ret
          exact ⟨by rw [HD.out] <;> rfl, HB.out.trans ((hal.out _).mono (by omega))⟩
        · by_cases t2 : o.next ≤ n
          · have HD := Lib.hid (NO fun p => by have := p.1.2; simp at this; omega)
            clear hmem hx NO
            go_wp2_with fail
            go_ret
            exact ⟨by rw [HD.out] <;> rfl, HB.out.trans ((hal.out _).mono (by omega))⟩
          · by_cases t3 : kd < 1
            · have HD := Lib.hid (NO fun p => by have := p.2.1.1; simp at this; omega)
              clear hmem hx NO
              go_wp2_with fail
              go_ret
              exact ⟨by rw [HD.out] <;> rfl, HB.out.trans ((hal.out _).mono (by omega))⟩
            · by_cases t4 : 5 < kd
              · have HD := Lib.hid (NO fun p => by have := p.2.1.2; simp at this; omega)
                clear hmem hx NO
                go_wp2_with fail
                go_ret
                exact ⟨by rw [HD.out] <;> rfl, HB.out.trans ((hal.out _).mono (by omega))⟩
              · by_cases t5 : 0 ≤ q ∧ q ≤ 1048576
                · rw [decide_eq_true t5] at H60
                  have HK : Hid (KidOk o.next (n, kd, q)) := ⟨⟨by simp; omega, by simp; omega⟩, ⟨by simp; omega, by simp; omega⟩, t5⟩
                  have HL : Hid (∀ y ∈ o.kids.take m, y.1 < n) := fun y hy => by have := HLT.out y hy; omega
                  clear hmem hx NO t5
                  go_wp2_with (first | (go_at_call 60; refine (H60.out _).mono ?_; rintro e w' ⟨rfl, rfl⟩))
                  go_roundg j
                  case measure => omega
                  case rel =>
                    refine ⟨⟨m + 1, n + 1, by have := HMK.out; omega, by go_num, by go_num, fun y hy => ?_, ?_, by omega, fun h => by omega, fun y hy => ?_, fun _ => ?_, HB.out.trans ((hal.out _).mono (by omega))⟩, HBX.out.below (hal.out _) (by omega)⟩
                    · rcases (take_mem' HX.out).1 hy with hy | rfl
                      · exact HOK.out y hy
                      · exact HK.out
                    · rw [List.take_add_one, HX.out]
                      refine List.pairwise_append.2 ⟨HPW.out, List.pairwise_singleton _ _, fun a ha b hb => ?_⟩
                      simp at hb
                      subst hb
                      exact HL.out a ha
                    · rcases (take_mem' HX.out).1 hy with hy | rfl
                      · have := HL.out y hy; omega
                      · simp; omega
                    · exact ⟨_, (take_mem' HX.out).2 (.inr rfl), rfl⟩
                · rw [decide_eq_false t5] at H60
                  have HD := Lib.hid (NO fun p => t5 p.2.2)
                  clear hmem hx NO t5
                  go_wp2_with (first | (go_at_call 60; refine (H60.out _).mono ?_; rintro e w' ⟨rfl, rfl⟩))
                  go_ret
                  exact ⟨by rw [HD.out] <;> rfl, HB.out.trans ((hal.out _).mono (by omega))⟩
end Go.Proofs.YtgcbfggoddkhnaaGreatDoor
