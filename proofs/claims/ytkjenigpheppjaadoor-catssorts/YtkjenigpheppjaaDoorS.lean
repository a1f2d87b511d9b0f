/- cats.Sort, walked. -/
import Derived.Test.YtkjenigpheppjaaDoorO
import Derived.Maps.AppendAt
namespace Go.Proofs.YtkjenigpheppjaaDoor
open Go.RowKit Go.Shelf

/-- A slice of strings that rise strictly: the categories of l. -/
def RetSort (w : World) (l : List (List UInt8)) (e : Ending) (w' : World) : Prop :=
  Below w.heap.size w w' ∧ ∃ A c R, e = .returned (.slice A R.length c) ∧ Strs w' w'.heap.size A R ∧ Rises cmpC R ∧ ∀ x, x ∈ R ↔ x ∈ l ∧ (catOf x).isSome = true

/-- Behind the sort and Compact. -/
def Sorted (w : World) (base g cap : Nat) (R : List (List UInt8)) (e : Ending) (w' : World) : Prop :=
  e = .returned (.tuple #[]) ∧ Below base w w' ∧ ∃ zs : List (List UInt8), zs.length = R.length ∧ RisesW cmpC zs ∧ (∀ x, x ∈ zs ↔ x ∈ R) ∧ Sort.Holds encStr w' g 0 zs.toArray ∧ g < w'.heap.size ∧ R.length ≤ cap

theorem sortFunc_any {w : World} {base g cap : Nat} {R : List (List UInt8)} (he : Env w) (hb8 : 8 ≤ base) (h : StrRow w base (.slice (some ⟨g, 0, none⟩) R.length cap) R) (hc : ∀ x ∈ R, (catOf x).isSome = true) (hn : R.length ≤ 8796093022207) :
    Calls Tryd.prog 32 #[.slice (some ⟨g, 0, none⟩) R.length cap, .func (.func 14) #[] #[]] w (Sorted w base g cap R) := by
  obtain ⟨d, hd, hH⟩ := holds_row h hc
  have hlt := World.ownsRow.lt h g rfl
  have hsz : d.size = R.length := by rw [← hd]; simp
  have eg : ∀ args w, (callFunc 14 args).run Tryd.prog w = .ok (.enter 14 args) w := enters_of Tryd.func14 (by kernel_rfl) rfl
  have hS := Any.slices_SortFunc_total Tryd.sortL encC (fun _ => rfl) cfC swo_cats 14 #[] g 0 cap d w eg (cmp_lays he g 0 d.size (by omega)) hH hlt.2 (by omega) parts_cats
  rw [hsz] at hS
  refine Calls.mono (show Calls Tryd.prog 32 _ _ _ from hS) ?_
  rintro e w' ⟨rfl, n, os, rfl⟩
  have hcap : R.length ≤ cap := by
    have h0 : w.ownsRow base 9 1 (.slice (some ⟨g, 0, none⟩) R.length cap) R.length (strCellsOf R) := h
    rcases h0.2 with ⟨hx, _⟩ | ⟨g', cap', cur, hx, _, _, hle, _⟩
    · cases hx
    · injection hx with _ _ hx
      omega
  refine ⟨rfl, below_put encC w g 0 n base _ os hlt.1 (Nat.le_trans hlt.1 (Nat.le_of_lt hlt.2)), (d.toList.mergeSort fun x y => !(ltOf cfC) y x).map CatT.val, ?_, ?_, ?_, ?_, ?_, hcap⟩
  · simp [hsz]
  · unfold RisesW
    rw [List.pairwise_map]
    have hp := List.pairwise_mergeSort (le := fun x y => !(ltOf cfC) y x) (fun a b c h1 h2 => ?_) (fun a b => ?_) d.toList
    · refine hp.imp fun {x y} hxy => ?_
      rw [lt_iff] at hxy
      have := tot_cmpC.neg x.1 y.1
      simp at hxy
      omega
    · rw [lt_iff] at *
      simp at *
      have n1 := tot_cmpC.neg a.1 b.1
      have n2 := tot_cmpC.neg b.1 c.1
      have n3 := tot_cmpC.neg a.1 c.1
      have := tot_cmpC.trans a.1 b.1 c.1 (by omega) (by omega)
      omega
    · rw [lt_iff, lt_iff]
      have n1 := tot_cmpC.neg a.1 b.1
      simp
      omega
  · intro x
    rw [← hd]
    simp [List.mem_mergeSort]
  · refine holds_cats (d := (d.toList.mergeSort fun x y => !(ltOf cfC) y x).toArray) ?_
    refine holds_grow (Sort.holds_putRow encC (Sort.ahead w n) g 0 d _ (fun j hj => hH j hj) (by simp)) ?_ os
    rw [put_size]
    exact hlt.2
  · have : g < (Sort.putRow encC (Sort.ahead w n) g 0 (d.toList.mergeSort fun x y => !(ltOf cfC) y x).toArray).heap.size := by rw [put_size]; exact hlt.2
    simp only [sortWorld, Sort.grow, Array.size_append]
    omega

theorem compact_any {w : World} {g cap B : Nat} {zs : List (List UInt8)} (hH : Sort.Holds encStr w g 0 zs.toArray) (hg : g < w.heap.size) (hB : B ≤ g) (hn : zs.length ≤ 8796093022207) (hcap : zs.length ≤ cap) (hr : RisesW cmpC zs) :
    Calls Tryd.prog 33 #[.slice (some ⟨g, 0, none⟩) zs.length cap] w fun e w' => Below B w w' ∧ ∃ R : List (List UInt8), e = .returned (.slice (some ⟨g, 0, none⟩) R.length cap) ∧ Strs w' w'.heap.size (some ⟨g, 0, none⟩) R ∧ Rises cmpC R ∧ ∀ x, x ∈ R ↔ x ∈ zs := by
  refine (Tryd.slices_Compact_string g 0 cap zs w hH (by omega) hcap).mono ?_
  rintro e w' ⟨rfl, q, rfl⟩
  obtain ⟨h1, h2⟩ := rises_compact tot_cmpC hr
  have hb := below_put encStr w g 0 q B (Lib.compact zs ++ List.replicate (zs.length - (Lib.compact zs).length) []).toArray #[] hB (by omega)
  rw [Sort.grow_empty] at hb
  refine ⟨hb, Lib.compact zs, rfl, fun _ => ⟨g, 0, rfl, by rw [put_size]; exact hg, fun k x hk => ?_⟩, h1, h2⟩
  have hlen : (Lib.compact zs).length ≤ zs.length := by
    unfold Lib.compact Lib.compactUpTo
    rw [List.length_map]
    exact Nat.le_trans (List.length_filter_le _ _) (by simp)
  refine holds_strs (Sort.holds_putRow encStr (Sort.ahead w q) g 0 zs.toArray _ (fun j hj => hH j hj) (by simp; omega)) ?_
  rw [List.getElem?_append_left (List.getElem?_eq_some_iff.1 hk).1]
  exact hk

def SortRel (w : World) (l : List (List UInt8)) (k : Nat) (v i : Value) (wr : World) : Prop :=
  ∃ m R, m + k = l.length ∧ i = .int .i64 (m : Int) ∧ StrRow wr w.heap.size v R ∧ R.length ≤ m ∧ (∀ x, x ∈ R ↔ x ∈ l.take m ∧ (catOf x).isSome = true) ∧ Below w.heap.size w wr

theorem take_mem {l : List (List UInt8)} {m : Nat} {y : List UInt8} (h : l[m]? = some y) (x : List UInt8) : x ∈ l.take (m + 1) ↔ x ∈ l.take m ∨ x = y := by
  rw [List.take_add_one, h]
  simp

set_option maxRecDepth 100000 in
set_option maxHeartbeats 2000000 in
theorem sort_any {w : World} {A : Option Addr} {c : Nat} {l : List (List UInt8)} (he : Env w) (hl : Strs w w.heap.size A l) (hx : ∀ x ∈ l, x.length ≤ 140737488351232) (hn : l.length ≤ 8796093022207) :
    Calls Tryd.prog 16 #[.slice A l.length c] w (RetSort w l) := by
  have HE := Lib.hid he
  have HL := Lib.hid hl
  have HX := Lib.hid hx
  clear he hl hx
  go_enter Tryd.func16, Tryd.ntmps16
  go_wp2_with fail
  go_loopg [3, 8] l.length (fun k v i wr => SortRel w l k v i wr)
  case atStart => exact ⟨0, [], by simp, rfl, World.ownsRow_nil _ _ _ _, by simp, by simp, Below.refl _ _⟩
  case round =>
    obtain ⟨m, R, hmk, hi, hrow, hRm, hmem, hb⟩ := hrel
    subst hi
    have HR := Lib.hid hrow
    have HB := Lib.hid hb
    have HM := Lib.hid hmem
    have EW := Lib.hid (HE.out.on hb)
    have hsz := hb.size
    cases gk with
    | zero =>
      have hge : l.length ≤ m := by omega
      have HM2 : Hid (∀ x, x ∈ R ↔ x ∈ l ∧ (catOf x).isSome = true) := by
        have := hmem
        rwa [List.take_of_length_le hge] at this
      have h0 : wr.ownsRow w.heap.size 9 1 _ R.length (strCellsOf R) := hrow
      rcases h0.2 with ⟨rfl, hR0⟩ | ⟨g, cap, cur, rfl, _⟩
      · have hRn : R = [] := List.eq_nil_of_length_eq_zero hR0
        subst hRn
        have H32 : Hid (Calls Tryd.prog 32 #[.slice none 0 0, .func (.func 14) #[] #[]] wr fun e w' => e = .returned (.tuple #[]) ∧ w' = wr) := AnyF.slices_SortFunc_none (P := Tryd.prog) (ρ := Tryd.sortL_ren) { Tryd.sortL with } none 0 (.func (.func 14) #[] #[]) wr
        have H33 := Lib.hid (Tryd.slices_Compact_string_empty none 0 wr)
        clear hrow hb hmem h0
        go_wp2_with (first
          | (go_at_call 32; refine H32.out.mono ?_; rintro e w' ⟨rfl, rfl⟩)
          | (go_at_call 33; refine H33.out.mono ?_; rintro e w' ⟨rfl, rfl⟩))
        go_ret
        exact ⟨HB.out, none, 0, [], rfl, fun h => absurd h (by simp), List.Pairwise.nil, HM2.out⟩
      · have H32 := Lib.hid (sortFunc_any EW.out HE.out.1 hrow (fun x h => ((HM2.out x).1 h).2) (by omega))
        have hg1 := (World.ownsRow.lt hrow g rfl).1
        clear hrow hb hmem h0
        go_wp2_with fail
        refine H32.out.mono ?_
        rintro e w1 ⟨rfl, hb1, zs, hzl, hzr, hzm, hzh, hgs, hcap⟩
        have H33 := Lib.hid (compact_any (B := w.heap.size) (cap := cap) hzh hgs hg1 (by omega) (by omega) hzr)
        rw [hzl] at H33
        have B1 := Lib.hid (HB.out.trans hb1)
        have HZ := Lib.hid hzm
        clear hb1 hzr hzm hzh H32
        go_wp2_with fail
        refine H33.out.mono ?_
        rintro e w2 ⟨hb2, R2, rfl, hs2, hr2, hm2⟩
        have B2 := Lib.hid (B1.out.trans hb2)
        have S2 := Lib.hid hs2
        have R2' := Lib.hid hr2
        have M2 := Lib.hid hm2
        clear hb2 hs2 hr2 hm2 H33
        go_wp2_with fail
        go_ret
        exact ⟨B2.out, _, _, R2, rfl, S2.out, R2'.out, fun x => ((M2.out x).trans (HZ.out x)).trans (HM2.out x)⟩
    | succ j =>
      have hm : m < l.length := by omega
      obtain ⟨x, hx⟩ : ∃ x, l[m]? = some x := ⟨_, List.getElem?_eq_getElem hm⟩
      obtain ⟨b, o, rfl, hlt, hcells⟩ := HL.out (by omega)
      have cx := (hb.cell (p := ⟨b, o + m, none⟩) hlt).trans (hcells m x hx)
      have hxl := HX.out x (List.mem_of_getElem? hx)
      have H10 := Lib.hid (right_any EW.out hxl)
      have HT := Lib.hid (take_mem hx)
      have HMK := Lib.hid hmk
      cases hc : (catOf x).isSome with
      | false =>
        have HN : Hid (∀ y, y ∈ R ↔ y ∈ l.take (m + 1) ∧ (catOf y).isSome = true) := fun y => by
          rw [HT.out y, HM.out y]
          constructor
          · rintro ⟨h1, h2⟩; exact ⟨.inl h1, h2⟩
          · rintro ⟨h1 | h1, h2⟩
            · exact ⟨h1, h2⟩
            · subst h1; rw [hc] at h2; cases h2
        rw [hc] at H10
        clear hx hcells hmk hb hrow hmem hc
        go_wp2_with fail
        refine H10.out.mono ?_
        rintro e w1 ⟨rfl, hb1⟩
        have B1 := Lib.hid (HB.out.trans (hb1.mono HB.out.size))
        have R1 := Lib.hid (HR.out.below hb1)
        clear hb1 cx H10
        go_wp2_with fail
        go_roundg j
        case measure => omega
        case rel => exact ⟨m + 1, R, by have := HMK.out; omega, by go_num, R1.out, by omega, HN.out, B1.out⟩
      | true =>
        have HN : Hid (∀ y, y ∈ R ++ [x] ↔ y ∈ l.take (m + 1) ∧ (catOf y).isSome = true) := fun y => by
          rw [HT.out y, List.mem_append, HM.out y, List.mem_singleton]
          constructor
          · rintro (⟨h1, h2⟩ | h1)
            · exact ⟨.inl h1, h2⟩
            · subst h1; exact ⟨.inr rfl, hc⟩
          · rintro ⟨h1 | h1, h2⟩
            · exact .inl ⟨h1, h2⟩
            · exact .inr h1
        rw [hc] at H10
        clear hx hcells hmk hb hrow hmem hc
        go_wp2_with fail
        refine H10.out.mono ?_
        rintro e w1 ⟨rfl, hb1⟩
        have B1 := Lib.hid (HB.out.trans (hb1.mono HB.out.size))
        have R1 := Lib.hid (HR.out.below hb1)
        have hs1 := B1.out.size
        clear hb1 cx H10
        have hle : R.length + 1 ≤ 8796093022208 := by omega
        have hbase : w.heap.size ≤ (w1.alloc (.cells #[.string (str x)] 9)).heap.size := by simp; omega
        go_wp2_with (first
          | (at_builtin; refine wpList_append_one rfl _ _ rfl w.heap.size _ R rfl (World.ownsRow.alloc R1.out _) ⟨w1.heap.size, 0, none⟩ x rfl (cell_one_new _ _ _) hle hbase ?_))
        intro v' w2 hown hb2
        have R2 := Lib.hid hown
        have B2 := Lib.hid ((B1.out.alloc B1.out.size _).trans hb2)
        clear hown hb2
        go_wp2_with fail
        go_roundg j
        case measure => omega
        case rel => exact ⟨m + 1, R ++ [x], by have := HMK.out; omega, by go_num, R2.out, by simp; omega, HN.out, B2.out⟩
end Go.Proofs.YtkjenigpheppjaaDoor
