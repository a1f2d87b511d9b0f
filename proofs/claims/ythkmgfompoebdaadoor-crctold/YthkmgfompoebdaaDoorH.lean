/- The law's helper 'first' answers true. -/
import Derived.Test.YthkmgfompoebdaaDoorG
import Derived.Lib.SlBytesConst
namespace Go.Proofs.YthkmgfompoebdaaDoor
open Go.RowKit

theorem num_be4 {v : Nat} (h : v < 4294967296) : num (be4 v) = v := by
  simp [num, be4]
  omega
theorem be4_num {q : List Nat} (hs : Sml q) (hq : q.length = 4) : be4 (num q) = q := by
  match q, hq with
  | [a, b, c, d], _ =>
    have ha := hs a (by simp)
    have hb := hs b (by simp)
    have hc := hs c (by simp)
    have hd := hs d (by simp)
    simp [num, be4]
    omega

/-- A row of bytes of its own, opened. -/
theorem own_open {w : World} {base : Nat} {v : Value} {l : List Nat} (h : w.ownsRow base 5 1 v l.length (cellsOf l)) (hp : 0 < l.length) :
    ∃ g cap, v = .slice (some ⟨g, 0, none⟩) l.length cap ∧ l.length ≤ cap ∧ base ≤ g ∧ g < w.heap.size ∧ Bts w w.heap.size (some ⟨g, 0, none⟩) l := by
  have h0 := h
  rcases h.2 with ⟨_, he⟩ | ⟨g, cap, cur, rfl, hb, hh, hnc, _⟩
  · omega
  · refine ⟨g, cap, rfl, hnc, hb, (h0.lt g rfl).2, fun _ => ⟨g, 0, rfl, (h0.lt g rfl).2, fun k c hk => ?_⟩⟩
    have := h0.cells (g := g) rfl k _ (cellsOf_at hk)
    rw [Go.WideShapes.add_plain] at this
    exact this

/-- It answers true; only new memory is written. -/
def Fine (w : World) (e : Ending) (w' : World) : Prop := e = .returned (.bool true) ∧ Below w.heap.size w w'

def ab : List Nat := [97, 98]
def nine : List Nat := [49, 50, 51, 52, 53, 54, 55, 56, 57]
theorem crc_nine : crc nine = 3421780262 := by kernel_rfl
theorem str_ab : str ab = ⟨#[97, 98]⟩ := by decide

theorem ab_laid (w : World) : Bts (w.alloc (.cells #[.int .u8 97, .int .u8 98] 5 (2, 3))) (w.alloc (.cells #[.int .u8 97, .int .u8 98] 5 (2, 3))).heap.size (some ⟨w.heap.size, 0, none⟩) ab := by
  intro _
  refine ⟨w.heap.size, 0, rfl, by simp, fun k c hk => ?_⟩
  rw [cell_of_row _ _ _ _ _ _ (heap_alloc_new w _), Nat.zero_add]
  match k, hk with
  | 0, hk => simp [ab] at hk; subst hk; rfl
  | 1, hk => simp [ab] at hk; subst hk; rfl
  | k + 2, hk => simp [ab] at hk
theorem nine_laid (w : World) : Bts (w.alloc (.cells #[.int .u8 49, .int .u8 50, .int .u8 51, .int .u8 52, .int .u8 53, .int .u8 54, .int .u8 55, .int .u8 56, .int .u8 57] 5 (9, 10))) (w.alloc (.cells #[.int .u8 49, .int .u8 50, .int .u8 51, .int .u8 52, .int .u8 53, .int .u8 54, .int .u8 55, .int .u8 56, .int .u8 57] 5 (9, 10))).heap.size (some ⟨w.heap.size, 0, none⟩) nine := by
  intro _
  refine ⟨w.heap.size, 0, rfl, by simp, fun k c hk => ?_⟩
  rw [cell_of_row _ _ _ _ _ _ (heap_alloc_new w _), Nat.zero_add]
  match k, hk with
  | 0, hk => simp [nine] at hk; subst hk; rfl
  | 1, hk => simp [nine] at hk; subst hk; rfl
  | 2, hk => simp [nine] at hk; subst hk; rfl
  | 3, hk => simp [nine] at hk; subst hk; rfl
  | 4, hk => simp [nine] at hk; subst hk; rfl
  | 5, hk => simp [nine] at hk; subst hk; rfl
  | 6, hk => simp [nine] at hk; subst hk; rfl
  | 7, hk => simp [nine] at hk; subst hk; rfl
  | 8, hk => simp [nine] at hk; subst hk; rfl
  | k + 9, hk => simp [nine] at hk

theorem ab_sml : Sml ab := by unfold Sml; decide
theorem nine_sml : Sml nine := by unfold Sml; decide

set_option maxRecDepth 100000 in
theorem first_true {w : World} (ht : TabIn w) : Calls Tryd.prog 6 #[] w (Fine w) := by
  have HT := Lib.hid ht
  have q0 := Lib.run_convert_bytes_const (P := Tryd.prog) w 28 5 #[.int .u8 97, .int .u8 98] 2 2 Tryd.underlying28 Tryd.underlying5
  clear ht
  go_enter Tryd.func6, Tryd.ntmps6
  go_wp2_with fail
  have hb0 : Below w.heap.size w (w.alloc (.cells #[.int .u8 97, .int .u8 98] 5 (2, 3))) := (Below.refl _ _).alloc (Nat.le_refl _) _
  refine (seal_any (HT.out.below HT.out.1 hb0) (ab_laid w) (fun h => by cases h) ab_sml (by decide)).mono ?_
  rintro e w1 ⟨v, rfl, hown, hb1⟩
  obtain ⟨g, cap, rfl, hcap, _, _, hbt⟩ := own_open hown (by simp [sealed, be4])
  have B1 := Lib.hid (hb0.trans (hb1.mono hb0.size))
  have T1 := Lib.hid (HT.out.below HT.out.1 B1.out)
  have L1 := Lib.hid hbt
  have C1 := Lib.hid hcap
  clear hown hb1 hbt hcap hb0 HT
  go_wp2_with fail
  refine (open_yes (p := ab) (q := be4 (crc ab)) T1.out L1.out (sealed_sml ab_sml) rfl (by decide) C1.out (num_be4 (crc_lt _)).symm).mono ?_
  rintro e w2 ⟨A2, c2, rfl, hb2, hbl⟩
  have B2 := Lib.hid (B1.out.trans (hbl.mono B1.out.size))
  have T2 := Lib.hid (T1.out.below T1.out.1 hbl)
  have L2 := Lib.hid hb2
  have q2 := Lib.run_convert_bytes_const (P := Tryd.prog) w2 28 5 #[.int .u8 49, .int .u8 50, .int .u8 51, .int .u8 52, .int .u8 53, .int .u8 54, .int .u8 55, .int .u8 56, .int .u8 57] 9 9 Tryd.underlying28 Tryd.underlying5
  clear hb2 hbl B1 T1 L1
  go_wp2_with fail
  have hb0 : Below w2.heap.size w2 (w2.alloc (.cells #[.int .u8 49, .int .u8 50, .int .u8 51, .int .u8 52, .int .u8 53, .int .u8 54, .int .u8 55, .int .u8 56, .int .u8 57] 5 (9, 10))) := (Below.refl _ _).alloc (Nat.le_refl _) _
  refine (of_any (T2.out.below T2.out.1 hb0) (nine_laid w2) nine_sml (by decide)).mono ?_
  rintro e w3 ⟨rfl, hb3⟩
  have B3 := Lib.hid (B2.out.trans ((hb0.trans (hb3.mono hb0.size)).mono B2.out.size))
  have q1 := conv_str (L2.out.below (hb0.trans (hb3.mono hb0.size))) c2
  rw [str_ab] at q1
  rw [crc_nine]
  clear hb0 hb3
  go_wp2_with fail
  go_ret
  exact ⟨rfl, B3.out⟩
end Go.Proofs.YthkmgfompoebdaaDoor
