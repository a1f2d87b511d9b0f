/- slices.DeleteFunc laid; owns.Drop. -/
import Derived.Test.YtglidfmgechneaaGreatDoorOc
import Derived.Shelf.SlicesE.DeleteFunc
namespace Go.Proofs
open Go.Shelf
def Tryz.delS_ren : Go.Shelf.Ren := ⟨fun | 10 => 35 | 6 => 64 | n => n, fun | 22 => 22 | 23 => 9 | 25 => 61 | 3 => 3 | 4 => 4 | 0 => 0 | n => n, fun | n => n⟩
theorem Tryz.delS : Go.Proofs.SlLaysH.n10 Tryz.prog Tryz.delS_ren := {
  mixed := by kernel_rfl
  f6 := ⟨Tryz.f64.name, by decide, Tryz.func64.trans (congrArg some (by kernel_rfl))⟩
  f10 := ⟨Tryz.f35.name, by decide, Tryz.func35.trans (congrArg some (by kernel_rfl))⟩
  t0 := Tryz.underlying0
  a0 := Tryz.isAgg0
  z0 := Tryz.sizeOf0
  v0 := Tryz.zeroValue0
  t3 := Tryz.underlying3
  a3 := Tryz.isAgg3
  z3 := Tryz.sizeOf3
  v3 := Tryz.zeroValue3
  t4 := Tryz.underlying4
  a4 := Tryz.isAgg4
  z4 := Tryz.sizeOf4
  v4 := Tryz.zeroValue4
  t22 := Tryz.underlying22
  a22 := Tryz.isAgg22
  z22 := Tryz.sizeOf22
  v22 := Tryz.zeroValue22
  a23 := Tryz.isAgg9
  z23 := Tryz.sizeOf9
  t25 := Tryz.underlying61
  a25 := Tryz.isAgg61
  z25 := Tryz.sizeOf61
  v25 := Tryz.zeroValue61 }
end Go.Proofs
namespace Go.Proofs.YtglidfmgechneaaGreatDoor
open Go.RowKit Go.Shelf Go.Lib Go.Sort

/-- Drop's own function, in whatever world holds the category in its box. -/
theorem drop1_any {g : Nat} {x s : List UInt8} {W : World} (hc : W.cell? ⟨g, 0, none⟩ = some (.string (str s))) :
    FnGives Tryz.prog 37 #[.pointer (some ⟨g, 0, none⟩)] #[encStr x] (.bool (decide (x = s))) W := by
  show Calls Tryz.prog 37 #[.string (str x), .pointer (some ⟨g, 0, none⟩)] W _
  by_cases he : x = s
  · have hq := str_same he
    have HD : Hid (decide (x = s) = true) := decide_eq_true he
    clear he
    go_enter Tryz.func37, Tryz.ntmps37
    go_wp2_with fail
    go_ret
    exact ⟨by rw [HD.out] <;> rfl, 0, rfl⟩
  · have hq := str_differs he
    have HD : Hid (decide (x = s) = false) := decide_eq_false he
    clear he
    go_enter Tryz.func37, Tryz.ntmps37
    go_wp2_with fail
    go_ret
    exact ⟨by rw [HD.out] <;> rfl, 0, rfl⟩

theorem holds_own {w : World} {base g cap : Nat} {R : List (List UInt8)} (h : StrRow w base (.slice (some ⟨g, 0, none⟩) R.length cap) R) : Sort.Holds encStr w g 0 R.toArray := fun j hj => by
  have hj' : j < R.length := by simpa using hj
  have h0 : w.ownsRow base 9 1 (.slice (some ⟨g, 0, none⟩) R.length cap) R.length (strCellsOf R) := h
  refine ⟨?_, ?_⟩
  · rw [Nat.zero_add, h0.cellAt j (by omega)]
    unfold strCellsOf
    simp [hj', encStr, str]
  · rw [Nat.zero_add]
    exact h0.frozenAt j

set_option maxRecDepth 100000 in
theorem delete_any {w : World} {base b g cap : Nat} {l : List (List UInt8)} {s : List UInt8} (h : StrRow w base (.slice (some ⟨g, 0, none⟩) l.length cap) l) (hc : w.cell? ⟨b, 0, none⟩ = some (.string (str s))) (hb : b < base) (hbs : base ≤ w.heap.size) (hn : l.length ≤ 1000000) :
    Calls Tryz.prog 35 #[.slice (some ⟨g, 0, none⟩) l.length cap, .func (.func 37) #[] #[.pointer (some ⟨b, 0, none⟩)]] w fun e w' => e = .returned (.slice (some ⟨g, 0, none⟩) (dropC l s).length cap) ∧ Strs w' w'.heap.size (some ⟨g, 0, none⟩) (dropC l s) ∧ Below base w w' := by
  have hH := holds_own h
  have hlt := World.ownsRow.lt h g rfl
  have hcap : l.length ≤ cap := by
    have h0 : w.ownsRow base 9 1 (.slice (some ⟨g, 0, none⟩) l.length cap) l.length (strCellsOf l) := h
    rcases h0.2 with ⟨hx, _⟩ | ⟨g', cap', cur, hx, _, _, hle, _⟩
    · cases hx
    · injection hx with _ _ hx
      omega
  have eg : ∀ args w, (callFunc 37 args).run Tryz.prog w = .ok (.enter 37 args) w := enters_of Tryz.func37 (by kernel_rfl) rfl
  have hcon := AnyE.slices_DeleteFunc Tryz.delS encStr (fun _ => rfl) (fun x => decide (x = s)) 37 #[.pointer (some ⟨b, 0, none⟩)] eg [] Tryz.zeroValue9 g 0 cap l.toArray w
    (fun W x hb' => drop1_any ((hb'.cell (p := ⟨b, 0, none⟩) (show b < _ by omega)).trans hc))
    (fun n os dk x _ => drop1_any (by
      unfold sortWorld
      rw [cell?_grow _ _ _ (by show b < (putRow _ _ _ _ _).heap.size; rw [size_putRow]; show b < w.heap.size; omega), cell?_putRow_other _ _ g 0 _ _ (Or.inl (by show b ≠ g; omega))]
      exact hc)) hH (by simp; omega) (by simpa using hcap)
  have hcon2 : Calls Tryz.prog 35 #[.slice (some ⟨g, 0, none⟩) l.length cap, .func (.func 37) #[] #[.pointer (some ⟨b, 0, none⟩)]] w fun e w' => e = .returned (.slice (some ⟨g, 0, none⟩) (dropC l s).length cap) ∧
      ∃ q, w' = putRow encStr (Sort.ahead w q) g 0 (dropC l s ++ List.replicate (l.length - (dropC l s).length) []).toArray := hcon
  refine hcon2.mono ?_
  rintro e w' ⟨rfl, q, rfl⟩
  have hbp := below_put encStr w g 0 q base (dropC l s ++ List.replicate (l.length - (dropC l s).length) []).toArray #[] hlt.1 hbs
  rw [Sort.grow_empty] at hbp
  refine ⟨rfl, fun _ => ⟨g, 0, rfl, by rw [put_size]; exact hlt.2, fun k x hk => ?_⟩, hbp⟩
  have hlen : (dropC l s).length ≤ l.length := List.length_filter_le _ _
  refine holds_strs (Sort.holds_putRow encStr (Sort.ahead w q) g 0 l.toArray _ (fun j hj => hH j hj) (by simp; omega)) ?_
  rw [List.getElem?_append_left (List.getElem?_eq_some_iff.1 hk).1]
  exact hk

set_option maxRecDepth 100000 in
theorem drop_any {w : World} {A : Option Addr} {c : Nat} {l : List (List UInt8)} {s : List UInt8} (he : Env w) (hl : SL w A c l) (hs : s.length ≤ 140737488351232) :
    Calls Tryz.prog 11 #[.slice A l.length c, .string (str s)] w (RetOwn w (DropOut l s)) := by
  obtain ⟨W0, hW0⟩ : ∃ W0, W0 = w.alloc (.cells #[.string (str s)] 9) := ⟨_, rfl⟩
  have hb0 : Below w.heap.size w W0 := by rw [hW0]; exact (Below.refl _ _).alloc (Nat.le_refl _) _
  have k0 : W0.cell? ⟨w.heap.size, 0, none⟩ = some (.string (str s)) := by rw [hW0]; simp
  have hg0 : w.heap.size < W0.heap.size := by rw [hW0]; simp
  have HE := Lib.hid (he.on hb0)
  have HL := Lib.hid (hl.on hb0)
  have B0 := Lib.hid hb0
  have HW0 := Lib.hid hW0
  have H33 := Lib.hid (wrong_any HE.out HL.out hs)
  clear he hl hb0 hW0
  by_cases ho : ¬ OwnL l
  · have hz : wrongErr l s = 2 := if_neg ho
    have HD : Hid (DropOut l s [] 2) := .inl ⟨ho, rfl, rfl⟩
    rw [hz] at H33
    clear ho hz
    go_enter Tryz.func11, Tryz.ntmps11
    go_wp2_with fail
    rw [← HW0.out]
    refine H33.out.mono ?_
    rintro e w1 ⟨rfl, hb1⟩
    have B1 : Hid (Below w.heap.size w w1) := B0.out.trans (hb1.mono B0.out.size)
    clear hb1
    go_wp2_with fail
    go_ret2
    exact ⟨B1.out, none, 0, [], 2, HD.out, rfl, sl_nil _⟩
  replace ho := Decidable.not_not.1 ho
  cases hc : (catOf s).isSome with
  | false =>
    have hz : wrongErr l s = 20 := by unfold wrongErr; rw [if_pos ho, if_neg (by rw [hc]; decide)]
    have HD : Hid (DropOut l s [] 20) := .inr (.inl ⟨ho, hc, rfl, rfl⟩)
    rw [hz] at H33
    clear ho hz hc
    go_enter Tryz.func11, Tryz.ntmps11
    go_wp2_with fail
    rw [← HW0.out]
    refine H33.out.mono ?_
    rintro e w1 ⟨rfl, hb1⟩
    have B1 : Hid (Below w.heap.size w w1) := B0.out.trans (hb1.mono B0.out.size)
    clear hb1
    go_wp2_with fail
    go_ret2
    exact ⟨B1.out, none, 0, [], 20, HD.out, rfl, sl_nil _⟩
  | true =>
    have hz : wrongErr l s = 0 := by unfold wrongErr; rw [if_pos ho, if_pos hc]
    have HO := Lib.hid ho
    have HC := Lib.hid hc
    rw [hz] at H33
    clear ho hz hc
    go_enter Tryz.func11, Tryz.ntmps11
    go_wp2_with fail
    rw [← HW0.out]
    refine H33.out.mono ?_
    rintro e w1 ⟨rfl, hb1⟩
    have B1 : Hid (Below w.heap.size w w1) := B0.out.trans (hb1.mono B0.out.size)
    have k1 : w1.cell? ⟨w.heap.size, 0, none⟩ = some (.string (str s)) := (hb1.cell (p := ⟨w.heap.size, 0, none⟩) hg0).trans k0
    have hg1 : w.heap.size < w1.heap.size := Nat.lt_of_lt_of_le hg0 hb1.size
    have L1 := Lib.hid (HL.out.on hb1)
    have H18 := Lib.hid (has_any (c := c) (s := s) L1.out.strs L1.out.len)
    clear hb1 k0 H33
    by_cases hin : ¬ s ∈ l
    · have HD : Hid (DropOut l s [] 36) := .inr (.inr (.inl ⟨HO.out, HC.out, hin, rfl, rfl⟩))
      rw [decide_eq_false hin] at H18
      clear hin
      go_wp2_with fail
      refine H18.out.mono ?_
      rintro e w2 ⟨rfl, rfl⟩
      go_wp2_with fail
      go_ret2
      exact ⟨B1.out, none, 0, [], 36, HD.out, rfl, sl_nil _⟩
    replace hin := Decidable.not_not.1 hin
    have HD : Hid (DropOut l s (dropC l s) 0) := .inr (.inr (.inr ⟨HO.out, HC.out, hin, rfl, rfl⟩))
    rw [decide_eq_true hin] at H18
    have hpos : 0 < l.length := List.length_pos_of_mem hin
    have H36 := Lib.hid (cloneS_any (c := c) L1.out.strs L1.out.nil L1.out.len)
    have hll := L1.out.len
    clear hin
    go_wp2_with fail
    refine H18.out.mono ?_
    rintro e w2 ⟨rfl, rfl⟩
    go_wp2_with fail
    refine H36.out.mono ?_
    rintro e w3 ⟨v, rfl, hrow, hb3⟩
    obtain ⟨g, cap, rfl⟩ : ∃ g cap, v = .slice (some ⟨g, 0, none⟩) l.length cap := by
      have h0 : w3.ownsRow w1.heap.size 9 1 v l.length (strCellsOf l) := hrow
      rcases h0.2 with ⟨rfl, he⟩ | ⟨g, cap, cur, rfl, _⟩
      · omega
      · exact ⟨g, cap, rfl⟩
    have k3 : w3.cell? ⟨w.heap.size, 0, none⟩ = some (.string (str s)) := (hb3.cell (p := ⟨w.heap.size, 0, none⟩) hg1).trans k1
    have H35 := Lib.hid (delete_any hrow k3 hg1 hb3.size hll)
    have B3 : Hid (Below w.heap.size w w3) := B1.out.trans (hb3.mono B1.out.size)
    have hg3 := B1.out.size
    clear hrow hb3 k1 k3 H18 H36
    go_wp2_with fail
    refine H35.out.mono ?_
    rintro e w4 ⟨rfl, hs4, hb4⟩
    have B4 : Hid (Below w.heap.size w w4) := B3.out.trans (hb4.mono hg3)
    have S4 := Lib.hid hs4
    have HOD := Lib.hid (own_drop s HO.out)
    clear hs4 hb4 H35
    go_wp2_with fail
    go_ret2
    exact ⟨B4.out, _, _, dropC l s, 0, HD.out, rfl, ⟨S4.out, (fun h => by cases h), own_cat_len HOD.out, by have := HOD.out.1; omega⟩⟩
end Go.Proofs.YtglidfmgechneaaGreatDoor
