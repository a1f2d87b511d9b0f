/- FormatInt to the base 10, strconv.Itoa, Errno.Error. -/
import Derived.Test.YtflmfppigpeiaaaDoorS
namespace Go.Proofs.YtflmfppigpeiaaaDoor
open Go.RowKit

/-- Bytes as a string. -/
def strN (l : List Nat) : ByteArray := strOfNums (l.map fun c : Nat => (c : Int))
theorem strN_size (l : List Nat) : (strN l).size = l.length := by simp [strN, strOfNums_size]

def digs (T : Nat → Nat) (u : Nat) : List Nat := (List.range (ndT T u)).map (D (ndT T u) u)
/-- The text of a number, under the table T. -/
def itT (T : Nat → Nat) (n : Int) : ByteArray :=
  if 0 ≤ n ∧ n < 100 then ⟨(Lib.decDigits n.toNat).toArray⟩ else strN ((if n < 0 then [45] else []) ++ digs T n.natAbs)

theorem dec_fin : ∀ i : Fin 100, (Lib.decDigits i.val).length ≤ 2 := by decide +kernel
theorem digs_length (T : Nat → Nat) (u : Nat) : (digs T u).length = ndT T u := by simp [digs]
theorem itT_size (T : Nat → Nat) (n : Int) : (itT T n).size ≤ 21 := by
  unfold itT
  split
  · rename_i h
    have := dec_fin ⟨n.toNat, by omega⟩
    show (Lib.decDigits n.toNat).toArray.size ≤ 21
    simpa using Nat.le_trans this (by omega)
  · rw [strN_size, List.length_append, digs_length]
    have := ndT_le T n.natAbs
    split <;> simp <;> omega

theorem Tryd.size5T : ∀ w, (Go.sizeOf 5).run Tryd.prog w = .ok 1 w := fun _ => by kernel_rfl
theorem Tryd.elem103 : Tryd.prog.elem 103 = 5 := by kernel_rfl
theorem Tryd.len103 : Tryd.prog.arrayLen 103 = 24 := by kernel_rfl
theorem Tryd.under103 : Tryd.prog.underlying 103 = some (.array (Tryd.prog.arrayLen 103) (Tryd.prog.elem 103)) := by kernel_rfl
theorem sl_lh (b N : Nat) (hN : N ≤ 20) (W : World) : (Instr.sliceAt 103 (.pointer (some ⟨b, 0, none⟩)) (some (.int .i64 1)) (some (.int .i64 (1 + (N : Int)))) none).run Tryd.prog W = .ok (.slice (some ⟨b, 1, none⟩) N 23) W := by
  rw [run_sliceAt_array_lh W 103 _ Tryd.under103 .i64 .i64 1 _ (by omega) (by omega) (by rw [Tryd.len103]; omega), Tryd.elem103, Tryd.size5T, Tryd.len103]
  simp only [Result.andThen, slicedAt]
  rw [if_neg (by decide), show (1 + (N : Int)).toNat - (1 : Int).toNat = N by omega]
  rfl
theorem sl_h (b N : Nat) (hN : N ≤ 20) (W : World) : (Instr.sliceAt 103 (.pointer (some ⟨b, 0, none⟩)) none (some (.int .i64 (1 + (N : Int)))) none).run Tryd.prog W = .ok (.slice (some ⟨b, 0, none⟩) (1 + N) 24) W := by
  rw [run_sliceAt_array_h W 103 _ Tryd.under103 .i64 _ (by omega) (by rw [Tryd.len103]; omega), Tryd.elem103, Tryd.size5T, Tryd.len103]
  simp only [Result.andThen, slicedAt]
  rw [if_neg (by decide), show (1 + (N : Int)).toNat - 0 = 1 + N by omega]
  rfl

/-- string(row) of cells that hold bytes. -/
theorem conv_row {w : World} {b o c : Nat} {l : List Nat} (h : ∀ i d : Nat, l[i]? = some d → w.cell? ⟨b, o + i, none⟩ = some (.int .u8 (d : Int))) : (convert 107 9 (.slice (some ⟨b, o, none⟩) l.length c)).run Tryd.prog w = .ok (.string (strN l)) w := by
  refine run_convert_bytes_arg w 107 5 Tryd.underlying107 Tryd.underlying5 b o l.length c (l.map fun c : Nat => (c : Int)) (by simp) (fun i hi => ?_) 9 Tryd.underlying9
  rw [h i _ (List.getElem?_eq_getElem hi)]
  simp [List.getD_eq_getElem?_getD, hi]

/-- The array a, as it is when it is made. -/
def arr : Obj := .cells #[.int .u8 0, .int .u8 0, .int .u8 0, .int .u8 0, .int .u8 0, .int .u8 0, .int .u8 0, .int .u8 0, .int .u8 0, .int .u8 0, .int .u8 0, .int .u8 0, .int .u8 0, .int .u8 0, .int .u8 0, .int .u8 0, .int .u8 0, .int .u8 0, .int .u8 0, .int .u8 0, .int .u8 0, .int .u8 0, .int .u8 0, .int .u8 0] 103
theorem arr_cell (w : World) (i : Nat) (hi : i < 24) : (w.alloc arr).cell? ⟨w.heap.size, i, none⟩ = some (.int .u8 0) := by
  have e : arr = .cells (Array.replicate 24 (.int .u8 0)) 103 := rfl
  rw [e, World.cell?_alloc_new]
  simp [hi]
theorem arr_start (w : World) (N u : Nat) (hN : N ≤ 20) : FS (w.alloc arr) w.heap.size 1 N u N u (w.alloc arr) :=
  ⟨0, by omega, by simp, fun t ht => ⟨0, arr_cell w (1 + t) (by omega), by simp [arr], fun h => by omega⟩, Upd.refl _ _ _ _⟩
theorem Upd.below {blk off N : Nat} {w w' : World} {B : Nat} (h : Upd blk off N w w') (hB : B ≤ blk) : Below B w w' :=
  ⟨h.os, h.tape, h.output, by rw [h.size]; exact Nat.le_refl _, fun k hk => h.block k (by omega)⟩
theorem digs_at {T : Nat → Nat} {u t d N : Nat} (hN : N = ndT T u) (h : (digs T u)[t]? = some d) : t < N ∧ d = D N u t := by
  subst hN
  simp only [digs, List.getElem?_map, Option.map_eq_some_iff] at h
  obtain ⟨i, hi, rfl⟩ := h
  obtain ⟨hlt, rfl⟩ := List.getElem?_eq_some_iff.1 hi
  simp at hlt ⊢
  exact hlt

set_option maxRecDepth 100000 in
theorem formatInt_pos {T : Nat → Nat} {w : World} {u : Nat} (ht : TabT T w) (h100 : 100 ≤ u) (hu : u < 9223372036854775808) :
    Calls Tryd.prog 54 #[.int .i64 (u : Int), .int .i64 10] w fun e w' => e = .returned (.string (strN (digs T u))) ∧ Below w.heap.size w w' := by
  have HT := Lib.hid ht
  clear ht
  have h0 : ¬ ((u : Int) < 0) := by omega
  have h1 : ¬ ((u : Int) < 100) := by omega
  have hN := ndT_le T u
  have HP := Lib.hid (ndT_pow (T := T) (u := u) (by omega))
  have HL := Lib.hid (digs_length T u)
  have H56 : Hid (∀ W : World, TabT T W → Calls Tryd.prog 56 #[.int .u64 (u : Int)] W fun e w' => e = .returned (.int .i64 (ndT T u : Int)) ∧ W = w') := fun W h => numDigits_any h (by omega)
  obtain ⟨N, hNe⟩ : ∃ N, N = ndT T u := ⟨_, rfl⟩
  rw [← hNe] at hN HP H56 HL
  have HN := Lib.hid hNe
  clear hNe
  have s1 := fun (b : Nat) (W : World) => sl_lh b N hN W
  go_enter Tryd.func54, Tryd.ntmps54
  go_wp2_with fail
  refine (H56.out _ (HT.out.below HT.out.1 ((Below.refl _ _).alloc (Nat.le_refl _) arr))).mono ?_
  rintro e w' ⟨rfl, rfl⟩
  go_wp2_with fail
  refine (fb_any (arr_start w N u hN) hN HP.out (by omega)).mono ?_
  rintro e w2 ⟨rfl, hc, hup⟩
  have HB : Hid (Below w.heap.size w w2) := ((Below.refl _ _).alloc (Nat.le_refl _) arr).trans (hup.below (Nat.le_refl _))
  have q : ∀ c, (convert 107 9 (.slice (some ⟨w.heap.size, 1, none⟩) (digs T u).length c)).run Tryd.prog w2 = .ok (.string (strN (digs T u))) w2 := fun c => conv_row (fun i d hi => by
    obtain ⟨hlt, rfl⟩ := digs_at HN.out hi
    exact hc i hlt)
  rw [HL.out] at q
  clear hc hup
  go_wp2_with fail
  go_ret
  exact ⟨rfl, HB.out⟩

set_option maxRecDepth 100000 in
theorem formatInt_neg {T : Nat → Nat} {w : World} {u : Nat} (ht : TabT T w) (h1 : 1 ≤ u) (hu : u ≤ 9223372036854775808) :
    Calls Tryd.prog 54 #[.int .i64 (-(u : Int)), .int .i64 10] w fun e w' => e = .returned (.string (strN ([45] ++ digs T u))) ∧ Below w.heap.size w w' := by
  have HT := Lib.hid ht
  clear ht
  have h0 : (-(u : Int)) < 0 := by omega
  have hN := ndT_le T u
  have HP := Lib.hid (ndT_pow (T := T) (u := u) (by omega))
  have HL := Lib.hid (digs_length T u)
  have H56 : Hid (∀ W : World, TabT T W → Calls Tryd.prog 56 #[.int .u64 (u : Int)] W fun e w' => e = .returned (.int .i64 (ndT T u : Int)) ∧ W = w') := fun W h => numDigits_any h (by omega)
  obtain ⟨N, hNe⟩ : ∃ N, N = ndT T u := ⟨_, rfl⟩
  rw [← hNe] at hN HP H56 HL
  have HN := Lib.hid hNe
  clear hNe
  have s1 := fun (b : Nat) (W : World) => sl_lh b N hN W
  have s2 := fun (b : Nat) (W : World) => sl_h b N hN W
  have zz : IntKind.u64.wrap (-IntKind.u64.wrap (-(u : Int))) = (u : Int) := by rw [IntKind.wrap_u64, IntKind.wrap_u64]; omega
  go_enter Tryd.func54, Tryd.ntmps54
  go_wp2_with fail
  refine (H56.out _ (HT.out.below HT.out.1 ((Below.refl _ _).alloc (Nat.le_refl _) arr))).mono ?_
  rintro e w' ⟨rfl, rfl⟩
  go_wp2_with fail
  refine (fb_any (arr_start w N u hN) hN HP.out (by omega)).mono ?_
  rintro e w2 ⟨rfl, hc, hup⟩
  have HB : Hid (Below w.heap.size w w2) := ((Below.refl _ _).alloc (Nat.le_refl _) arr).trans (hup.below (Nat.le_refl _))
  have d0 : w2.cell? ⟨w.heap.size, 0, none⟩ = some (.int .u8 0) := (hup.cell 0 (by omega)).trans (arr_cell w 0 (by omega))
  have f0 : w2.frozen? ⟨w.heap.size, 0, none⟩ = false := (hup.frozen 0).trans (by simp [arr])
  have q : ∀ c, (convert 107 9 (.slice (some ⟨w.heap.size, 0, none⟩) ([45] ++ digs T u).length c)).run Tryd.prog (w2.setCell ⟨w.heap.size, 0, none⟩ (.int .u8 45)) = .ok (.string (strN ([45] ++ digs T u))) (w2.setCell ⟨w.heap.size, 0, none⟩ (.int .u8 45)) := fun c => conv_row (fun i d hi => by
    cases i with
    | zero =>
      simp at hi
      subst hi
      exact World.cell?_setCell_same' _ _ _ (by rw [d0]; rfl)
    | succ i =>
      rw [List.getElem?_append_right (by simp)] at hi
      obtain ⟨hlt, rfl⟩ := digs_at HN.out (by simpa using hi)
      rw [World.cell?_setCell_other _ _ _ _ (by intro e; injection e with _ e; omega), show 0 + (i + 1) = 1 + i by omega]
      exact hc i hlt)
  have hl2 : ([45] ++ digs T u).length = 1 + N := by rw [List.length_append, HL.out]; rfl
  rw [hl2] at q
  have hgt : w.heap.size < w2.heap.size := World.block_lt_of_cell? w2 _ d0
  clear hc hup hl2
  go_wp2_with fail
  go_ret
  exact ⟨rfl, HB.out.setCell (Nat.le_refl _) _⟩

theorem formatInt_any {T : Nat → Nat} {w : World} {n : Int} (ht : TabT T w) (h1 : -9223372036854775808 ≤ n) (h2 : n ≤ 9223372036854775807) :
    Calls Tryd.prog 54 #[.int .i64 n, .int .i64 10] w fun e w' => e = .returned (.string (itT T n)) ∧ Below w.heap.size w w' := by
  unfold itT
  by_cases hs : 0 ≤ n ∧ n < 100
  · rw [if_pos hs]
    obtain ⟨i, rfl⟩ := Int.eq_ofNat_of_zero_le hs.1
    rw [Int.toNat_natCast]
    have hi : i < 100 := by omega
    have H := Lib.hid (small_any i hi w)
    clear hs h1 h2 ht
    go_enter Tryd.func54, Tryd.ntmps54
    go_wp2_with (go_at_call 55; refine H.out.mono ?_; rintro e w' ⟨rfl, rfl⟩)
    go_ret
    exact ⟨rfl, Below.refl _ _⟩
  · rw [if_neg hs]
    by_cases hneg : n < 0
    · rw [if_pos hneg]
      obtain ⟨u, hu⟩ : ∃ u : Nat, n = -(u : Int) := ⟨n.natAbs, by omega⟩
      subst hu
      rw [Int.natAbs_neg, Int.natAbs_natCast]
      exact formatInt_neg ht (by omega) (by omega)
    · rw [if_neg hneg, List.nil_append]
      obtain ⟨u, rfl⟩ := Int.eq_ofNat_of_zero_le (show 0 ≤ n by omega)
      rw [Int.natAbs_natCast]
      exact formatInt_pos ht (by omega) (by omega)

theorem itoa_any {T : Nat → Nat} {w : World} {n : Int} (ht : TabT T w) (h1 : -9223372036854775808 ≤ n) (h2 : n ≤ 9223372036854775807) :
    Calls Tryd.prog 52 #[.int .i64 n] w fun e w' => e = .returned (.string (itT T n)) ∧ Below w.heap.size w w' := by
  have H := Lib.hid (formatInt_any ht h1 h2)
  have H53 : Hid (Calls Tryd.prog 53 #[.int .i64 n] w fun e w' => e = .returned (.string (itT T n)) ∧ Below w.heap.size w w') := by
    clear ht
    go_enter Tryd.func53, Tryd.ntmps53
    go_wp2_with (go_at_call 54; refine H.out.mono ?_; rintro e w' ⟨rfl, hb⟩)
    go_ret
    exact ⟨rfl, hb⟩
  clear ht H
  go_enter Tryd.func52, Tryd.ntmps52
  go_wp2_with (go_at_call 53; refine H53.out.mono ?_; rintro e w' ⟨rfl, hb⟩)
  go_ret
  exact ⟨rfl, hb⟩

def errPre : ByteArray := ⟨#[114, 101, 103, 101, 110, 99, 121, 58, 32, 101, 114, 114, 111, 114, 32]⟩
/-- The text of an Errno, under the table T. -/
def enT (T : Nat → Nat) (n : Int) : ByteArray := errPre ++ itT T n
theorem enT_size (T : Nat → Nat) (n : Int) : (enT T n).size ≤ 36 := by
  have := itT_size T n
  rw [enT, ByteArray.size_append]
  show 15 + _ ≤ 36
  omega

theorem errno_any {T : Nat → Nat} {w : World} {n : Int} (ht : TabT T w) (h1 : -9223372036854775808 ≤ n) (h2 : n ≤ 9223372036854775807) :
    Calls Tryd.prog 51 #[.int .i64 n] w fun e w' => e = .returned (.string (enT T n)) ∧ Below w.heap.size w w' := by
  have H := Lib.hid (itoa_any ht h1 h2)
  have hs := itT_size T n
  have HE : Hid (enT T n = ⟨#[114, 101, 103, 101, 110, 99, 121, 58, 32, 101, 114, 114, 111, 114, 32]⟩ ++ itT T n) := rfl
  obtain ⟨t, hte⟩ : ∃ t, t = itT T n := ⟨_, rfl⟩
  rw [← hte] at H hs HE
  have q : ∀ W : World, (Op.stringOp .add ⟨#[114, 101, 103, 101, 110, 99, 121, 58, 32, 101, 114, 114, 111, 114, 32]⟩ t).run Tryd.prog W = .ok (.string (⟨#[114, 101, 103, 101, 110, 99, 121, 58, 32, 101, 114, 114, 111, 114, 32]⟩ ++ t)) W := fun W => run_string_add_sum W _ _ (by show 15 + t.size ≤ _; omega)
  clear ht hte
  go_enter Tryd.func51, Tryd.ntmps51
  go_wp2_with (go_at_call 52; refine H.out.mono ?_; rintro e w' ⟨rfl, hb⟩)
  go_ret
  exact ⟨by rw [HE.out]; rfl, hb⟩
end Go.Proofs.YtflmfppigpeiaaaDoor
