/- The law's helper 'first' answers true. -/
import Derived.Test.YtkjenigpheppjaaDoorS
namespace Go.Proofs.YtkjenigpheppjaaDoor
open Go.RowKit

theorem d0 : Lib.decDigits 0 = [48] := Lib.decDigits_one (by omega)
theorem d1 : Lib.decDigits 1 = [49] := Lib.decDigits_one (by omega)
theorem d3 : Lib.decDigits 3 = [51] := Lib.decDigits_one (by omega)
theorem d10 : Lib.decDigits 10 = [49, 48] := Lib.decDigits_two (by omega) (by omega)
theorem d20 : Lib.decDigits 20 = [50, 48] := Lib.decDigits_two (by omega) (by omega)
theorem t_a : catText [1, 3] 10 = [49, 46, 51, 47, 49, 48] := by simp [catText, pathText, joinDot, d1, d3, d10]
theorem t_b : catText [1, 20] 0 = [49, 46, 50, 48, 47, 48] := by simp [catText, pathText, joinDot, d1, d20, d0]
theorem t_0 : catText [] 0 = [47, 48] := by simp [catText, pathText, joinDot, d0]
theorem t_1 : catText [1] 1 = [49, 47, 49] := by simp [catText, pathText, joinDot, d1]
theorem c_a : catOf [49, 46, 51, 47, 49, 48] = some ([1, 3], 10) := catOf_iff.2 ⟨by decide, t_a.symm⟩
theorem c_b : catOf [49, 46, 50, 48, 47, 48] = some ([1, 20], 0) := catOf_iff.2 ⟨by decide, t_b.symm⟩
theorem c_0 : catOf [47, 48] = some ([], 0) := catOf_iff.2 ⟨by decide, t_0.symm⟩
theorem c_x : catOf [120] = none := by
  unfold catOf
  rw [show scan [120] [] 0 0 = some ([], 0) by decide]
  exact if_neg fun h => by have := h.2; rw [t_0] at this; simp at this
theorem c_1 : catOf [49, 47, 48, 49] = none := by
  unfold catOf
  rw [show scan [49, 47, 48, 49] [] 0 0 = some ([1], 1) by decide]
  exact if_neg fun h => by have := h.2; rw [t_1] at this; simp at this
theorem cmp_ab : cmpC [49, 46, 51, 47, 49, 48] [49, 46, 50, 48, 47, 48] = -1 := by
  unfold cmpC
  rw [c_a, c_b]
  decide
theorem sort_first {R : List (List UInt8)} (h : Rises cmpC R) (hm : ∀ x, x ∈ R ↔ x ∈ [[49, 46, 50, 48, 47, 48], [120], [49, 46, 51, 47, 49, 48], [49, 46, 50, 48, 47, 48]] ∧ (catOf x).isSome = true) :
    R = [[49, 46, 51, 47, 49, 48], [49, 46, 50, 48, 47, 48]] := by
  refine rises_unique tot_cmpC h ?_ fun x => ?_
  · exact List.pairwise_cons.2 ⟨fun y hy => by rw [List.mem_singleton.1 hy]; exact cmp_ab, List.pairwise_singleton _ _⟩
  · rw [hm x]
    simp only [List.mem_cons, List.not_mem_nil, or_false]
    constructor
    · rintro ⟨h1 | h1 | h1 | h1, h2⟩
      · exact .inr h1
      · subst h1; rw [c_x] at h2; cases h2
      · exact .inl h1
      · exact .inr h1
    · rintro (h1 | h1)
      · subst h1; exact ⟨.inr (.inr (.inl rfl)), by rw [c_a]; rfl⟩
      · subst h1; exact ⟨.inl rfl, by rw [c_b]; rfl⟩

theorem ints_first (w : World) : Ints (w.alloc (.cells #[.int .i64 1, .int .i64 3] 3)) (w.alloc (.cells #[.int .i64 1, .int .i64 3] 3)).heap.size (some ⟨w.heap.size, 0, none⟩) [1, 3] :=
  ⟨by simp, fun _ => ⟨w.heap.size, 0, rfl, by simp, fun k z hk => by
    rw [cell_of_row _ _ _ _ _ _ (heap_alloc_new w _), Nat.zero_add]
    match k, hk with
    | 0, hk => simp at hk; subst hk; rfl
    | 1, hk => simp at hk; subst hk; rfl
    | k + 2, hk => simp at hk⟩⟩
def fourObj : Obj := .cells #[.string ⟨#[49, 46, 50, 48, 47, 48]⟩, .string ⟨#[120]⟩, .string ⟨#[49, 46, 51, 47, 49, 48]⟩, .string ⟨#[49, 46, 50, 48, 47, 48]⟩] 9
theorem strs_first (w : World) : Strs (w.alloc fourObj) (w.alloc fourObj).heap.size (some ⟨w.heap.size, 0, none⟩) [[49, 46, 50, 48, 47, 48], [120], [49, 46, 51, 47, 49, 48], [49, 46, 50, 48, 47, 48]] := fun _ => by
  refine ⟨w.heap.size, 0, rfl, by simp, fun k z hk => ?_⟩
  unfold fourObj
  rw [cell_of_row _ _ _ _ _ _ (heap_alloc_new w _), Nat.zero_add]
  match k, hk with
  | 0, hk => simp at hk; subst hk; rfl
  | 1, hk => simp at hk; subst hk; rfl
  | 2, hk => simp at hk; subst hk; rfl
  | 3, hk => simp at hk; subst hk; rfl
  | k + 4, hk => simp at hk

set_option maxRecDepth 100000 in
set_option maxHeartbeats 2000000 in
theorem first_true {w : World} (he : Env w) : Calls Tryd.prog 7 #[] w (Fine w) := by
  obtain ⟨S, hS⟩ : ∃ S, S = str [49, 46, 51, 47, 49, 48] := ⟨_, rfl⟩
  have HE := Lib.hid he
  have H11 : Hid (Calls Tryd.prog 11 #[.slice (some ⟨w.heap.size, 0, none⟩) 2 2, .int .i64 10] (w.alloc (.cells #[.int .i64 1, .int .i64 3] 3)) (RetB (w.alloc (.cells #[.int .i64 1, .int .i64 3] 3)) (.tuple #[.string S, .bool true]))) := by
    have h := name_yes (c := 2) (n := 10) (zs := [1, 3]) (he.on ((Below.refl _ _).alloc (Nat.le_refl _) _)) (ints_first w) ⟨by simp, by simp⟩ ⟨by omega, by omega⟩
    have e : catText (nats [1, 3]) (10 : Int).toNat = [49, 46, 51, 47, 49, 48] := t_a
    rw [e, ← hS] at h
    exact h
  have hq1 : (S.toList == (⟨#[49, 46, 51, 47, 49, 48]⟩ : ByteArray).toList) = true := by rw [hS]; exact str_same rfl
  have hq2 : S.toList = [49, 46, 51, 47, 49, 48] := by rw [hS, ByteArray.toList_eq, str_list]
  have H8 : Hid (∀ W, Env W → Calls Tryd.prog 8 #[.string ⟨#[49, 46, 50, 48, 47, 48]⟩] W (RetCat W [49, 46, 50, 48, 47, 48])) := fun W h => parse_any h (by simp)
  have H16 : Hid (∀ W, Env W → Calls Tryd.prog 16 #[.slice (some ⟨W.heap.size, 0, none⟩) 4 4] (W.alloc fourObj) (RetSort (W.alloc fourObj) [[49, 46, 50, 48, 47, 48], [120], [49, 46, 51, 47, 49, 48], [49, 46, 50, 48, 47, 48]])) := fun W h =>
    sort_any (c := 4) (h.on ((Below.refl _ _).alloc (Nat.le_refl _) _)) (strs_first W) (by simp) (by simp)
  have H14 : Hid (∀ W, Env W → Calls Tryd.prog 14 #[.string S, .string ⟨#[49, 46, 50, 48, 47, 48]⟩] W (RetB W (.int .i64 (-1)))) := fun W h => by
    have := compare_any (a := [49, 46, 51, 47, 49, 48]) (b := [49, 46, 50, 48, 47, 48]) h (by simp) (by simp)
    rw [cmp_ab, ← hS] at this
    exact this
  have H10 : Hid (∀ W, Env W → Calls Tryd.prog 10 #[.string ⟨#[47, 48]⟩] W (RetB W (.bool true))) := fun W h => by
    have := right_any (s := [47, 48]) h (by simp)
    rw [c_0] at this
    exact this
  have H10' : Hid (∀ W, Env W → Calls Tryd.prog 10 #[.string ⟨#[49, 47, 48, 49]⟩] W (RetB W (.bool false))) := fun W h => by
    have := right_any (s := [49, 47, 48, 49]) h (by simp)
    rw [c_1] at this
    exact this
  have HS := Lib.hid hS
  clear he hS
  go_enter Tryd.func7, Tryd.ntmps7
  go_wp2_with fail
  refine H11.out.mono ?_
  rintro e w1 ⟨rfl, hb1⟩
  have B1 := Lib.hid (((Below.refl w.heap.size w).alloc (Nat.le_refl _) _).trans (hb1.mono (by simp)))
  have E1 := Lib.hid (HE.out.on B1.out)
  clear hb1 H11
  go_wp2_with fail
  refine (H8.out w1 E1.out).mono ?_
  rintro e w2 ⟨hb2, (⟨p, n, v, hc, rfl, hrow, _⟩ | ⟨hc, rfl⟩)⟩
  · rw [c_b] at hc
    injection hc with hc
    injection hc with hc1 hc2
    subst hc1 hc2
    have B2 := Lib.hid (B1.out.trans (hb2.mono B1.out.size))
    have E2 := Lib.hid (HE.out.on B2.out)
    obtain ⟨A, c, rfl, hI⟩ := hrow.ints (by simp)
    obtain ⟨b, o, rfl, hlt, hcells⟩ := hI.2 (by simp [ints])
    have C1 : Hid (w2.cell? ⟨b, o + 1, none⟩ = some (.int .i64 20)) := hcells 1 20 rfl
    have hltb := hlt
    clear hb2 hrow hI hcells hlt
    go_wp2_with fail
    refine (H16.out w2 E2.out).mono ?_
    rintro e w3 ⟨hb3, A3, c3, R, rfl, hs3, hr3, hm3⟩
    have hR := sort_first hr3 hm3
    subst hR
    have B3 := Lib.hid ((B2.out.alloc B2.out.size _).trans (hb3.mono (by have := B2.out.size; simp; omega)))
    have E3 := Lib.hid (HE.out.on B3.out)
    have hb23 : Below w2.heap.size w2 w3 := ((Below.refl _ _).alloc (Nat.le_refl _) _).trans (hb3.mono (by simp))
    have c20 := (hb23.cell (p := ⟨b, o + 1, none⟩) hltb).trans C1.out
    obtain ⟨b3, o3, rfl, hlt3, hcells3⟩ := hs3 (by simp)
    have CS : Hid (w3.cell? ⟨b3, o3, none⟩ = some (.string S)) := by rw [HS.out]; exact hcells3 0 _ rfl
    clear hb3 hs3 hr3 hm3 hcells3 hb23
    go_wp2_with fail
    refine (H14.out w3 E3.out).mono ?_
    rintro e w4 ⟨rfl, hb4⟩
    have B4 := Lib.hid (B3.out.trans (hb4.mono B3.out.size))
    have E4 := Lib.hid (HE.out.on B4.out)
    have cS : w4.cell? ⟨b3, o3, none⟩ = some (.string S) := (hb4.cell (p := ⟨b3, o3, none⟩) hlt3).trans CS.out
    clear hb4 c20 CS
    go_wp2_with fail
    refine (H10.out w4 E4.out).mono ?_
    rintro e w5 ⟨rfl, hb5⟩
    have B5 := Lib.hid (B4.out.trans (hb5.mono B4.out.size))
    have E5 := Lib.hid (HE.out.on B5.out)
    clear hb5 cS
    go_wp2_with fail
    refine (H10'.out w5 E5.out).mono ?_
    rintro e w6 ⟨rfl, hb6⟩
    have B6 := Lib.hid (B5.out.trans (hb6.mono B5.out.size))
    clear hb6
    go_wp2_with fail
    go_ret
    exact ⟨rfl, B6.out⟩
  · rw [c_b] at hc
    cases hc
end Go.Proofs.YtkjenigpheppjaaDoor
