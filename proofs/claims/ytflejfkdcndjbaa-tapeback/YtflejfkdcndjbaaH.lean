/- Pens whose blocks all lie from B on; the law's helper 'first' answers true. -/
import Derived.Test.YtflejfkdcndjbaaG
namespace Go.Proofs.Ytflejfkdcndjbaa
open Go.RowKit

def PenF (B : Nat) (w : World) (g : Nat) (l : List Nat) : Prop := ∃ k, PenAt w g k l ∧ B ≤ g ∧ ∀ j, k = some j → B ≤ j

theorem PenF.below {B C : Nat} {w w' : World} {g : Nat} {l : List Nat} (h : PenF B w g l) (hb : Below C w w') (hC : C = w.heap.size) : PenF B w' g l := by
  subst hC
  obtain ⟨k, hp, hg, hk⟩ := h
  exact ⟨k, hp.kp (Kp.of_below hb (fun _ => False)) (fun h => h) (fun _ _ h => h), hg, hk⟩
theorem PenF.alloc {B : Nat} {w : World} {g : Nat} {l : List Nat} (h : PenF B w g l) (o : Obj) : PenF B (w.alloc o) g l := h.below ((Below.refl _ _).alloc (Nat.le_refl _) o) rfl
theorem PenF.drew {B : Nat} {w : World} {g : Nat} {l : List Nat} (h : PenF B w g l) : PenF B w.drew g l := h.below (Below.refl _ _).drew rfl

/-- It answers v; the pen has written l; nothing below B has turned. -/
def Writ (B : Nat) (v : Value) (g : Nat) (l : List Nat) (w : World) (e : Ending) (w' : World) : Prop := e = .returned v ∧ PenF B w' g l ∧ Below B w w'

theorem Wrote.writ {B : Nat} {w w' : World} {g : Nat} {k : Option Nat} {l : List Nat} {v : Value} (h : Wrote w g k l w') (hg : B ≤ g) (hk : ∀ j, k = some j → B ≤ j) (hB : B ≤ w.heap.size) : Writ B v g l w (.returned v) w' := by
  obtain ⟨k', hp, hk', hkp⟩ := h
  refine ⟨rfl, ⟨k', hp, hg, fun j hj => ?_⟩, hkp.below hB ?_⟩
  · rcases hk' with rfl | ⟨i, hi, hle⟩
    · exact hk j hj
    · rw [hj] at hi; injection hi with hi; omega
  · rintro b (rfl | hb)
    · exact hg
    · exact hk b hb

theorem penF_number {B : Nat} {w : World} {g : Nat} {l : List Nat} {n : Nat} (h : PenF B w g l) (hB : B ≤ w.heap.size) (hn : n ≤ 4611686018427387903) (hl : l.length ≤ 900000) :
    Calls Try.prog 6 #[.pointer (some ⟨g, 0, none⟩), .int .i64 (n : Int)] w (Writ B (.bool true) g (l ++ enc n) w) := by
  obtain ⟨k, hp, hg, hk⟩ := h
  exact (pen_number hp hn hl).mono fun e w' ⟨he, hw⟩ => by subst he; exact hw.writ hg hk hB
theorem penF_text {B : Nat} {w : World} {g : Nat} {l : List Nat} (h : PenF B w g l) (hB : B ≤ w.heap.size) (s : ByteArray) (hs : s.size ≤ 3000) (hl : l.length ≤ 800000) :
    Calls Try.prog 10 #[.pointer (some ⟨g, 0, none⟩), .string s] w (Writ B (.tuple #[]) g (l ++ txt s) w) := by
  obtain ⟨k, hp, hg, hk⟩ := h
  exact (pen_text hp hl s hs).mono fun e w' ⟨he, hw⟩ => by subst he; exact hw.writ hg hk hB
theorem penF_flag {B : Nat} {w : World} {g : Nat} {l : List Nat} (h : PenF B w g l) (hB : B ≤ w.heap.size) (b : Bool) (hl : l.length ≤ 900000) :
    Calls Try.prog 8 #[.pointer (some ⟨g, 0, none⟩), .bool b] w (Writ B (.tuple #[]) g (l ++ flg b) w) := by
  obtain ⟨k, hp, hg, hk⟩ := h
  exact (pen_flag hp hl b).mono fun e w' ⟨he, hw⟩ => by subst he; exact hw.writ hg hk hB
theorem penF_bytes {B : Nat} {w : World} {g : Nat} {l : List Nat} (h : PenF B w g l) (hl : l.length ≤ 900000) : Calls Try.prog 12 #[.pointer (some ⟨g, 0, none⟩)] w (RetCopy w l) := by
  obtain ⟨k, hp, hg, hk⟩ := h
  exact pen_bytes hp hl

theorem pen_zero (w : World) : PenAt (w.alloc (.cells #[.slice none 0 0] 27)) w.heap.size none [] :=
  ⟨.slice none 0 0, by simp, by simp, rfl, World.ownsRow_nil _ _ _ _, by simp⟩
theorem penF_zero {w : World} {B : Nat} (hB : B ≤ w.heap.size) : PenF B (w.alloc (.cells #[.slice none 0 0] 27)) w.heap.size [] := ⟨none, pen_zero w, hB, fun j h => by cases h⟩

/-- It answers true; only new memory is written. -/
def Fine (w : World) (e : Ending) (w' : World) : Prop := e = .returned (.bool true) ∧ Below w.heap.size w w'

def abS : ByteArray := ⟨#[97, 98]⟩
def firstL : List Nat := [] ++ enc 300 ++ txt abS ++ flg true
theorem enc_300 : enc 300 = [172, 2] := by rw [enc_big (by omega), enc_small (by omega)]
theorem txt_ab : txt abS = [2, 97, 98] := by
  have h : bys abS = [97, 98] := by decide
  rw [txt, h, show abS.size = 2 from rfl, enc_small (by omega)]
  rfl
theorem firstL_eq : firstL = [172, 2, 2, 97, 98, 1] := by rw [firstL, enc_300, txt_ab]; rfl
theorem firstL_str : str firstL = ⟨#[172, 2, 2, 97, 98, 1]⟩ := by rw [firstL_eq]; decide
theorem firstL_split : firstL = enc 300 ++ (enc [97, 98].length ++ ([97, 98] ++ enc 1)) := by rw [firstL_eq, enc_300, enc_small (n := 1) (by omega), show [97, 98].length = 2 from rfl, enc_small (n := 2) (by omega)]; rfl
theorem firstL_sml : Sml firstL := by rw [firstL_eq]; unfold Sml; decide

theorem TNum.below {B : Nat} {w w' : World} {g : Nat} {k : Option Nat} {l : List Nat} {most : Int} {e : Ending} (h : TNum w g k l most e w') (hg : B ≤ g) (hB : B ≤ w.heap.size) : Below B w w' := h.1.below hB (fun b hb => by rw [hb]; exact hg)
theorem TNum.hit {w w' : World} {g n : Nat} {k : Option Nat} {r : List Nat} {most : Int} {e : Ending} (h : TNum w g k (enc n ++ r) most e w') (hn : (n : Int) ≤ most) (hlt : n < 9223372036854775808) : e = .returned (.int .i64 (n : Int)) ∧ TapeAt w' g k r .nilIface := by
  rcases h.2 with ⟨m, r', hl, _, _, he, ht⟩ | ⟨hno, _⟩
  · obtain ⟨e1, e2⟩ := enc_prefix hl
    subst e1 e2
    exact ⟨he, ht⟩
  · have := hno n r rfl hlt
    omega
theorem TTxt.hit {w w' : World} {g : Nat} {k : Option Nat} {s r : List Nat} {most : Int} {e : Ending} (h : TTxt w g k (enc s.length ++ (s ++ r)) most e w') (hn : (s.length : Int) ≤ most) (hlt : s.length < 9223372036854775808) : e = .returned (.string (str s)) ∧ TapeAt w' g k r .nilIface := by
  rcases h.2 with ⟨s', r', hl, _, he, ht⟩ | ⟨hno, _⟩
  · obtain ⟨e1, e2⟩ := enc_prefix hl
    obtain ⟨e3, e4⟩ := List.append_inj e2 e1
    subst e3 e4
    exact ⟨he, ht⟩
  · have := hno s r rfl hlt
    omega
theorem TTxt.below {B : Nat} {w w' : World} {g : Nat} {k : Option Nat} {l : List Nat} {most : Int} {e : Ending} (h : TTxt w g k l most e w') (hg : B ≤ g) (hB : B ≤ w.heap.size) : Below B w w' := h.1.below hB (fun b hb => by rw [hb]; exact hg)

theorem one128 (w : World) : Bts (w.alloc (.cells #[.int .u8 128] 5)) (w.alloc (.cells #[.int .u8 128] 5)).heap.size (some ⟨w.heap.size, 0, none⟩) [128] := by
  intro _
  refine ⟨w.heap.size, 0, rfl, by simp, fun k d hk => ?_⟩
  rw [cell_of_row _ _ _ _ _ _ (heap_alloc_new w _), Nat.zero_add]
  match k, hk with
  | 0, hk => simp at hk; subst hk; rfl
  | k + 1, hk => simp at hk

set_option maxRecDepth 100000 in
theorem first_true (w : World) : Calls Try.prog 5 #[] w (Fine w) := by
  have P0 := Lib.hid (penF_zero (w := w) (Nat.le_refl _))
  have B0 : Hid (Below w.heap.size w (w.alloc (.cells #[.slice none 0 0] 27))) := (Below.refl _ _).alloc (Nat.le_refl _) _
  obtain ⟨w0, hw0⟩ : ∃ w0, w0 = w.alloc (.cells #[.slice none 0 0] 27) := ⟨_, rfl⟩
  rw [← hw0] at P0 B0
  go_enter Try.func5, Try.ntmps5
  go_wp2_with fail
  rw [← hw0]
  clear hw0
  refine (penF_number (n := 300) P0.out B0.out.size (by omega) (by simp)).mono ?_
  rintro e w1 ⟨rfl, h1, b1⟩
  have P1 := Lib.hid h1
  have B1 := Lib.hid (B0.out.trans b1)
  clear h1 b1 P0 B0
  go_wp2_with fail
  refine (penF_text P1.out B1.out.size abS (by decide) (by rw [enc_300]; simp)).mono ?_
  rintro e w2 ⟨rfl, h1, b1⟩
  have P2 := Lib.hid h1
  have B2 := Lib.hid (B1.out.trans b1)
  clear h1 b1 P1 B1
  go_wp2_with fail
  refine (penF_flag P2.out B2.out.size true (by rw [enc_300, txt_ab]; simp)).mono ?_
  rintro e w3 ⟨rfl, h1, b1⟩
  have P3 : Hid (PenF w.heap.size w3 w.heap.size firstL) := h1
  have B3 := Lib.hid (B2.out.trans b1)
  clear h1 b1 P2 B2
  go_wp2_with fail
  refine (penF_bytes P3.out (by rw [firstL_eq]; simp)).mono ?_
  rintro e w4 ⟨A4, c4, rfl, h1, -, h2, -, -, b1⟩
  have P4 := Lib.hid (P3.out.below b1 rfl)
  have B4 := Lib.hid (B3.out.trans (b1.mono B3.out.size))
  have L4 := Lib.hid h1
  have N4 := Lib.hid h2
  clear h1 h2 b1 P3 B3
  go_wp2_with fail
  refine (tape_new L4.out N4.out (by rw [firstL_eq]; simp)).mono ?_
  rintro e w5 ⟨g5, k5, rfl, h1, h2, h3, b1⟩
  have P5 := Lib.hid (P4.out.below b1 rfl)
  have B5 := Lib.hid (B4.out.trans (b1.mono B4.out.size))
  have T5 := Lib.hid h1
  have G5 : Hid (w.heap.size ≤ g5) := Nat.le_trans B4.out.size h2
  clear h1 h2 h3 b1 P4 B4 L4 N4
  go_wp2_with fail
  refine (penF_bytes P5.out (by rw [firstL_eq]; simp)).mono ?_
  rintro e w6 ⟨A6, c6, rfl, h1, -, -, -, -, b1⟩
  have B6 := Lib.hid (B5.out.trans (b1.mono B5.out.size))
  have T6 := Lib.hid (T5.out.kp (Kp.of_below b1 (fun _ => False)) (fun h => h) (fun _ _ h => h))
  have q6 := conv_str h1 c6
  rw [firstL_str] at q6
  clear h1 b1 P5 B5 T5
  go_wp2_with fail
  have t7 := T6.out
  rw [firstL_split] at t7
  refine (tape_number (most := 300) t7 (by rw [← firstL_split]; exact firstL_sml) (by rw [← firstL_split, firstL_eq]; simp)).mono ?_
  intro e w7 h7
  have B7 := Lib.hid (B6.out.trans (h7.below G5.out B6.out.size))
  obtain ⟨rfl, t8⟩ := h7.hit (by omega) (by omega)
  have T7 := Lib.hid t8
  clear h7 t7 t8 B6 T6 q6
  go_wp2_with fail
  refine (tape_text (most := 2) T7.out ?_ ?_).mono ?_
  · rw [enc_small (n := 1) (by omega), show [97, 98].length = 2 from rfl, enc_small (n := 2) (by omega)]; unfold Sml; decide
  · rw [enc_small (n := 1) (by omega), show [97, 98].length = 2 from rfl, enc_small (n := 2) (by omega)]; simp
  intro e w8 h8
  have B8 := Lib.hid (B7.out.trans (h8.below G5.out B7.out.size))
  obtain ⟨rfl, t8⟩ := h8.hit (by simp) (by simp)
  have T8 := Lib.hid t8
  have hab : str [97, 98] = ⟨#[97, 98]⟩ := by decide
  rw [hab]
  clear h8 t8 B7 T7 hab
  go_wp2_with fail
  have t9 : TapeAt w8 g5 k5 (enc 1 ++ []) .nilIface := by rw [List.append_nil]; exact T8.out
  refine (tape_flag t9 (by rw [List.append_nil]; exact enc_sml 1) (by rw [List.append_nil, enc_small (by omega)]; simp)).mono ?_
  rintro e w9 ⟨v, rfl, h9⟩
  have B9 := Lib.hid (B8.out.trans (h9.below G5.out B8.out.size))
  obtain ⟨hv, t10⟩ := h9.hit (by omega) (by omega)
  injection hv with hv
  injection hv with _ hv
  subst hv
  have T9 := Lib.hid t10
  clear h9 t9 t10 B8 T8
  go_wp2_with fail
  refine (tape_end_ok T9.out).mono ?_
  rintro e w10 ⟨rfl, rfl⟩
  clear T9
  go_wp2_with fail
  refine (tape_new (A := none) (c := 0) (l := []) (fun h => absurd h (by simp)) (fun _ => rfl) (by simp)).mono ?_
  rintro e w10 ⟨g10, k10, rfl, h1, h2, h3, b1⟩
  have B10 := Lib.hid (B9.out.trans (b1.mono B9.out.size))
  have T10 := Lib.hid h1
  clear h1 h2 h3 b1 B9 G5
  go_wp2_with fail
  refine (tape_end_ok T10.out).mono ?_
  rintro e w11 ⟨rfl, rfl⟩
  clear T10
  go_wp2_with fail
  refine (has_nil _).mono ?_
  rintro e w11 ⟨rfl, rfl⟩
  go_wp2_with fail
  refine (tape_new (l := [128]) (one128 w10) (fun h => by cases h) (by simp)).mono ?_
  rintro e w12 ⟨g12, k12, rfl, h1, h2, h3, b1⟩
  have B12 : Hid (Below w.heap.size w w12) := (B10.out.alloc B10.out.size _).trans (b1.mono (by have := B10.out.size; simp; omega))
  have G12 : Hid (w.heap.size ≤ g12) := by have := B10.out.size; simp at h2; exact Nat.le_trans this (by omega)
  have T12 := Lib.hid h1
  clear h1 h2 h3 b1 B10
  go_wp2_with fail
  refine (tape_number (most := 9) T12.out (by unfold Sml; decide) (by simp)).mono ?_
  intro e w13 h13
  have B13 := Lib.hid (B12.out.trans (h13.below G12.out B12.out.size))
  have hno : NoNum [128] 9 := no_end (by unfold Big; decide)
  have he : e = .returned (.int .i64 0) := by
    rcases h13.2 with ⟨n, r, hl, hle, hlt, _⟩ | ⟨_, he, _⟩
    · have := hno n r hl hlt
      omega
    · exact he
  subst he
  clear h13 hno B12 T12
  go_wp2_with fail
  go_ret
  exact ⟨rfl, B13.out⟩
end Go.Proofs.Ytflejfkdcndjbaa
