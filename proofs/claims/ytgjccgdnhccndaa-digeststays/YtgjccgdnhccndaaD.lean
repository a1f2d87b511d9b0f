/- (*sum).digest, start; digest.Of, digest.Chain. -/
import Derived.Test.YtgjccgdnhccndaaC
namespace Go.Proofs.Ytgjccgdnhccndaa
open Go.RowKit

/-- It returns v; nothing below B has turned. -/
def RetO (B : Nat) (w : World) (v : Value) (e : Ending) (w' : World) : Prop := e = .returned v ∧ Below B w w'
/-- It returns v; only new memory is written. -/
def RetB (w : World) (v : Value) (e : Ending) (w' : World) : Prop := e = .returned v ∧ Below w.heap.size w w'

theorem asNum_bits {a b : Nat} (ha : a < 4294967296) (hb : b < 4294967296) : bits .and .u64 (bits .or .u64 ((a : Int) * 4294967296) (b : Int)) 4611686018427387903 = ((asNum (a, b) : Nat) : Int) := by
  have e1 : bits .or .u64 ((a : Int) * 4294967296) (b : Int) = ((a * 4294967296 + b : Nat) : Int) := by simpa using two_or ha hb
  rw [e1, mask62 (by omega)]
  rfl

theorem asNum_wrap (p : Nat × Nat) : wrap64 ((asNum p : Nat) : Int) = ((asNum p : Nat) : Int) := by
  have : asNum p < 4611686018427387904 := Nat.mod_lt _ (by omega)
  unfold wrap64
  omega
theorem below_drewN {B : Nat} {w w' : World} (h : Below B w w') (n : Nat) : Below B w (w'.drewN n) := ⟨h.os, h.tape, h.output, h.size, h.block⟩

set_option maxRecDepth 100000 in
theorem sum_digest {w : World} {g B : Nat} {l : List Nat} (h : SumOf w g l) (hn : l.length ≤ 300000) (hB : B ≤ g) :
    Calls Try.prog 14 #[.pointer (some ⟨g, 0, none⟩)] w (RetO B w (.int .i64 ((dig l : Nat) : Int))) := by
  have H16 := Lib.hid (add_number (n := l.length) h (by omega) hn hB)
  obtain ⟨⟨-, -, c2⟩, -, -, -⟩ := h
  go_enter Try.func14, Try.ntmps14
  go_wp2_with fail
  refine H16.out.mono ?_
  rintro e w1 ⟨rfl, h1, h2⟩
  have HB := Lib.hid h2
  have HA := st_lt (l ++ le8 l.length)
  have HD : Hid (dig l = asNum (st (l ++ le8 l.length))) := rfl
  obtain ⟨⟨d0, d1, -⟩, -, -, -⟩ := h1
  obtain ⟨⟨a, b⟩, hab⟩ : ∃ p, p = st (l ++ le8 l.length) := ⟨_, rfl⟩
  rw [← hab] at d0 d1 HA HD
  obtain ⟨ha, hb⟩ := HA
  have e1 := asNum_bits ha hb
  have e2 := asNum_wrap (a, b)
  clear hab h2 c2 H16
  go_wp2_with fail
  go_quiet (fail)
  go_wp2_with fail
  go_ret
  exact ⟨ret_int (by rw [HD.out, e2]), below_drewN HB.out _⟩

theorem start_any (w : World) : Calls Try.prog 12 #[] w (RetB w (.agg #[.int .u32 1, .int .u32 40389, .int .u64 0])) := by
  go_enter Try.func12, Try.ntmps12
  go_wp2_with fail
  (try simp only [Exit.inBlock, Exit.then])
  refine bodyPost_ret (results_cell_row rfl _ _ w.heap.size 34 #[.int .u32 1, .int .u32 40389, .int .u64 0] (0, 0) _ rfl (heap_alloc_new w _) Try.underlying34 rfl (by kernel_rfl)) rfl ?_
  exact ⟨rfl, (Below.refl _ _).alloc (Nat.le_refl _) _⟩

theorem sum_new (w : World) : SumOf (w.alloc (.cells #[.int .u32 1, .int .u32 40389, .int .u64 0] 34)) w.heap.size [] :=
  ⟨⟨by simp [st_nil], by simp [st_nil], by simp⟩, by simp, by simp, by simp⟩

set_option maxRecDepth 100000 in
theorem of_any {w : World} {A : Option Addr} {c : Nat} {l : List Nat} (hl : Bts w w.heap.size A l) (hs : Sml l) (hn : l.length ≤ 100000) :
    Calls Try.prog 6 #[.slice A l.length c] w (RetB w (.int .i64 ((dig l : Nat) : Int))) := by
  have HL := Lib.hid hl
  have HS := Lib.hid hs
  clear hl hs
  go_enter Try.func6, Try.ntmps6
  go_wp2_with fail
  refine (start_any w).mono ?_
  rintro e w1 ⟨rfl, hb1⟩
  have HB1 := Lib.hid hb1
  have HU := Lib.hid (sum_new w1)
  have H13 := Lib.hid (add_bytes (c := c) (sum_new w1) ((HL.out.below (hb1.alloc hb1.size _))) HS.out hn (by simp) hb1.size)
  clear hb1
  go_wp2_with fail
  refine H13.out.mono ?_
  rintro e w2 ⟨rfl, h2, hb2⟩
  have H14 := Lib.hid (sum_digest h2 (by simp; omega) HB1.out.size)
  have HB2 := Lib.hid ((HB1.out.alloc HB1.out.size _).trans hb2)
  clear h2 hb2 H13 HU
  go_wp2_with fail
  refine H14.out.mono ?_
  rintro e w3 ⟨rfl, hb3⟩
  have HB3 := Lib.hid (HB2.out.trans hb3)
  clear hb3
  go_wp2_with fail
  go_ret
  exact ⟨rfl, HB3.out⟩

set_option maxRecDepth 100000 in
theorem chain_any {w : World} {A : Option Addr} {c : Nat} {l : List Nat} {was : Int} (hl : Bts w w.heap.size A l) (hs : Sml l) (hn : l.length ≤ 100000) :
    Calls Try.prog 8 #[.int .i64 was, .slice A l.length c] w (RetB w (.int .i64 ((dig (le8 (u64 was) ++ l) : Nat) : Int))) := by
  have HL := Lib.hid hl
  have HS := Lib.hid hs
  have t0 := u64_wrap was
  have hu := u64_lt was
  have HE := Lib.hid (le8_length (u64 was))
  obtain ⟨u, hue⟩ : ∃ u, u = u64 was := ⟨_, rfl⟩
  rw [← hue] at t0 hu HE ⊢
  clear hl hs hue
  go_enter Try.func8, Try.ntmps8
  go_wp2_with fail
  refine (start_any w).mono ?_
  rintro e w1 ⟨rfl, hb1⟩
  have HB1 := Lib.hid hb1
  have H16 := Lib.hid (add_number (B := w.heap.size) (sum_new w1) hu (by simp) hb1.size)
  clear hb1
  go_wp2_with fail
  refine H16.out.mono ?_
  rintro e w2 ⟨rfl, h2, hb2⟩
  have HB2 := Lib.hid ((HB1.out.alloc HB1.out.size _).trans hb2)
  have H13 := Lib.hid (add_bytes (c := c) h2 (HL.out.below HB2.out) HS.out hn (by rw [List.nil_append, HE.out]; omega) HB1.out.size)
  clear h2 hb2 H16
  go_wp2_with fail
  refine H13.out.mono ?_
  rintro e w3 ⟨rfl, h3, hb3⟩
  have H14 := Lib.hid (sum_digest h3 (by rw [List.nil_append, List.length_append, HE.out]; omega) HB1.out.size)
  have HB3 := Lib.hid (HB2.out.trans hb3)
  clear h3 hb3 H13
  go_wp2_with fail
  refine H14.out.mono ?_
  rintro e w4 ⟨rfl, hb4⟩
  have HB4 := Lib.hid (HB3.out.trans hb4)
  clear hb4
  go_wp2_with fail
  go_ret
  exact ⟨rfl, HB4.out⟩
end Go.Proofs.Ytgjccgdnhccndaa
