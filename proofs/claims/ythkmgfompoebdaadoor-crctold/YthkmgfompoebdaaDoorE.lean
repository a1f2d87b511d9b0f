/- The reference's Bits returns the bits of its bytes, each byte's least one first; its Of the checksum. -/
import Derived.Test.YthkmgfompoebdaaDoorD
namespace Go.Proofs.YthkmgfompoebdaaDoor
open Go.RowKit

theorem bitsOf_range : ∀ (k c : Nat), bitsOf k c = (List.range k).map fun i => c / 2 ^ i % 2
  | 0, _ => rfl
  | k + 1, c => by
    rw [List.range_succ_eq_map, List.map_cons, List.map_map, bitsOf, bitsOf_range k]
    simp only [Nat.pow_zero, Nat.div_one, List.cons.injEq, true_and]
    refine List.map_congr_left fun i _ => ?_
    simp only [Function.comp_apply]
    rw [Nat.div_div_eq_div_mul, Nat.pow_succ, Nat.mul_comm 2]
theorem bitsOf_snoc (k c : Nat) : bitsOf (k + 1) c = bitsOf k c ++ [c / 2 ^ k % 2] := by
  rw [bitsOf_range, bitsOf_range, List.range_succ, List.map_append]
  rfl
theorem bitsOf_length (k c : Nat) : (bitsOf k c).length = k := by rw [bitsOf_range]; simp

theorem allBits_append (a b : List Nat) : allBits (a ++ b) = allBits a ++ allBits b := by
  induction a with
  | nil => rfl
  | cons x r ih => simp [allBits, ih]
theorem allBits_snoc {m c : Nat} {l : List Nat} (h : l[m]? = some c) : allBits (l.take (m + 1)) = allBits (l.take m) ++ bitsOf 8 c := by
  rw [List.take_add_one, h, allBits_append]
  simp [allBits]
theorem allBits_length (l : List Nat) : (allBits l).length = 8 * l.length := by
  induction l with
  | nil => rfl
  | cons x r ih => simp [allBits, ih, bitsOf_length]; omega
theorem bitsOf_two {k c x : Nat} (h : x ∈ bitsOf k c) : x < 2 := by
  rw [bitsOf_range] at h
  simp at h
  obtain ⟨i, _, rfl⟩ := h
  omega
theorem allBits_two {l : List Nat} {x : Nat} (h : x ∈ allBits l) : x < 2 := by
  induction l with
  | nil => simp [allBits] at h
  | cons y r ih =>
    simp [allBits] at h
    rcases h with h | h
    · exact bitsOf_two h
    · exact ih h

theorem and1 (x : Nat) (hx : x < 256) : bits .and .u8 (x : Int) 1 = ((x % 2 : Nat) : Int) := by
  have e := u8_and_nat x 1 hx (by omega)
  rw [Nat.and_one_is_mod] at e
  exact e

theorem bit_at (x q : Nat) (hx : x < 256) : bits .and .u8 ((x : Int) / 2 ^ q) 1 = ((x / 2 ^ q % 2 : Nat) : Int) := by
  have h : x / 2 ^ q ≤ x := Nat.div_le_self _ _
  have e := and1 (x / 2 ^ q) (by omega)
  rw [Int.natCast_ediv, Int.natCast_pow] at e
  exact e

theorem one_laid (w : World) (y : Nat) : Bts (w.alloc (.cells #[.int .u8 (y : Int)] 5)) (w.heap.size + 1) (some ⟨w.heap.size, 0, none⟩) [y] := by
  intro _
  refine ⟨w.heap.size, 0, rfl, by omega, fun k c hk => ?_⟩
  rw [cell_of_row _ _ _ _ _ _ (heap_alloc_new w _), Nat.zero_add]
  match k, hk with
  | 0, hk => simp at hk; subst hk; simp
  | k + 1, hk => simp at hk

def BitsRel (w : World) (l : List Nat) (k : Nat) (v i : Value) (wr : World) : Prop :=
  ∃ m, m + k = l.length ∧ i = .int .i64 (m : Int) ∧ wr.ownsRow w.heap.size 5 1 v (allBits (l.take m)).length (cellsOf (allBits (l.take m))) ∧ Below w.heap.size w wr
def BitRel (w : World) (ys : List Nat) (x : Nat) (k : Nat) (v i : Value) (wr : World) : Prop :=
  ∃ m, m + k = 8 ∧ i = .int .i64 (m : Int) ∧ wr.ownsRow w.heap.size 5 1 v (ys ++ bitsOf m x).length (cellsOf (ys ++ bitsOf m x)) ∧ Below w.heap.size w wr

set_option maxRecDepth 100000 in
theorem bits_any {w : World} {A : Option Addr} {c : Nat} {l : List Nat} (hl : Bts w w.heap.size A l) (hs : Sml l) (hn : l.length ≤ 100000) :
    Calls Tryd.prog 14 #[.slice A l.length c] w (RetRow w (allBits l)) := by
  have HL := Lib.hid hl
  have HS := Lib.hid hs
  clear hl hs
  go_enter Tryd.func14, Tryd.ntmps14
  go_wp2_with fail
  go_loopg [3, 9] l.length (fun k v i wr => BitsRel w l k v i wr)
  case atStart => exact ⟨0, by simp, rfl, World.ownsRow_nil _ _ _ _, Below.refl _ _⟩
  case round =>
    obtain ⟨m, hmk, hi, hown, hb⟩ := hrel
    subst hi
    cases gk with
    | zero =>
      have hge : l.length ≤ m := by omega
      have HO := Lib.hid hown
      have HB := Lib.hid hb
      clear hown hb hmk
      go_wp2_with fail
      go_ret
      have e := HO.out
      rw [List.take_of_length_le hge] at e
      exact ⟨_, rfl, e, HB.out⟩
    | succ j =>
      have hm : m < l.length := by omega
      obtain ⟨x, hx⟩ : ∃ x, l[m]? = some x := ⟨_, List.getElem?_eq_getElem hm⟩
      obtain ⟨b, o, rfl, hlt, hcells⟩ := HL.out (by omega)
      have cx := (hb.cell (p := ⟨b, o + m, none⟩) hlt).trans (hcells m x hx)
      have hx8 := HS.out.at hx
      have AN := Lib.hid (allBits_snoc hx)
      have hylen : (allBits (l.take m)).length ≤ 800000 := by rw [allBits_length, List.length_take]; omega
      have HM := Lib.hid hmk
      have HO := Lib.hid hown
      have HB := Lib.hid hb
      clear hmk hx hcells hown hb
      go_wp2_with fail
      go_loopg [3, 6] 8 (fun k v i wr => BitRel w (allBits (l.take m)) x k v i wr)
      case atStart => exact ⟨0, rfl, rfl, by simpa [bitsOf] using HO.out, HB.out⟩
      case round =>
        obtain ⟨q, hqk, hi, hown, hb⟩ := hrel
        subst hi
        have hsz := hb.size
        cases gk with
        | zero =>
          have HO1 := Lib.hid hown
          have HB1 := Lib.hid hb
          have HQ := Lib.hid hqk
          have hq8 : 8 ≤ q := by omega
          clear hown hb hqk
          go_wp2_with fail
          go_roundg j
          case measure => omega
          case rel =>
            refine ⟨m + 1, by have := HM.out; omega, by go_num, ?_, HB1.out⟩
            have e := HO1.out
            have hq : q = 8 := by have := HQ.out; omega
            rw [hq, ← AN.out] at e
            exact e
        | succ t =>
          have hq8 : q < 8 := by omega
          have f1 := bit_at x q hx8
          have BN := Lib.hid (bitsOf_snoc q x)
          obtain ⟨y, hy⟩ : ∃ y, y = x / 2 ^ q % 2 := ⟨_, rfl⟩
          rw [← hy] at f1 BN
          have HQ := Lib.hid hqk
          have hle : (allBits (l.take m) ++ bitsOf q x).length ≤ 900000 := by rw [List.length_append, bitsOf_length]; omega
          have HO1 := Lib.hid hown
          have HB1 := Lib.hid hb
          clear hy hqk hown hb
          go_wp2_with (first
            | (at_builtin; refine wpList_append_bts rfl _ _ rfl w.heap.size _ _ _ rfl (HO1.out.alloc _) (wr.heap.size + 1) (some ⟨wr.heap.size, 0, none⟩) 1 [y] rfl (one_laid wr y) (fun h => by cases h) (by simp only [List.length_singleton]; omega) (by simp; omega) ?_))
          intro v' w1 hown' hgrow
          have hb1 : Below w.heap.size w w1 := (HB1.out.alloc hsz _).grown hgrow (by simp; omega) (fun k hk => (HO1.out.lt k hk).1)
          have HO2 := Lib.hid hown'
          have HB2 := Lib.hid hb1
          clear hown' hgrow hb1
          go_wp2_with fail
          go_roundg t
          case measure => omega
          case rel =>
            refine ⟨q + 1, by have := HQ.out; omega, by go_num, ?_, HB2.out⟩
            have e := HO2.out
            rw [BN.out]
            simpa [List.length_append, Nat.add_assoc] using e

/-- One bit of the reference's division, in the walk's own words. -/
theorem bit_laid {r x : Nat} (hr : r < 4294967296) (hx : x < 2) :
    ∃ y : Nat, bits .xor .u8 ((r : Int) % 256) (x : Int) = (y : Int) ∧
      ((bits .and .u8 (y : Int) 1 = 1 ∧ bits .xor .u32 ((r : Int) / 2) 3988292384 = ((bitStp r x : Nat) : Int)) ∨ (bits .and .u8 (y : Int) 1 = 0 ∧ r / 2 = bitStp r x)) := by
  have h1 : r % 256 ^^^ x < 256 := Nat.xor_lt_two_pow (n := 8) (by omega) (by omega)
  refine ⟨r % 256 ^^^ x, ?_, ?_⟩
  · have := u8_xor_nat (r % 256) x (by omega) (by omega)
    simpa using this
  · have e2 := and1 (r % 256 ^^^ x) h1
    have hp : (r % 256 ^^^ x) % 2 = (r ^^^ x) % 2 := by rw [xor_mod2, xor_mod2]; omega
    have hd : (r ^^^ x) / 2 = r / 2 := by rw [Nat.xor_div_two, show x / 2 = 0 by omega, Nat.xor_zero]
    rw [hp] at e2
    by_cases hb : (r ^^^ x) % 2 = 1
    · refine .inl ⟨by rw [e2, hb]; rfl, ?_⟩
      have := xor32 (r / 2) 3988292384 (by omega) (by omega)
      rw [bitStp, stp, if_pos hb, hd]
      simpa using this
    · refine .inr ⟨by rw [e2, show (r ^^^ x) % 2 = 0 by omega]; rfl, ?_⟩
      rw [bitStp, stp, if_neg hb, hd]

theorem regBits_snoc {r0 m x : Nat} {l : List Nat} (h : l[m]? = some x) : regBits r0 (l.take (m + 1)) = bitStp (regBits r0 (l.take m)) x := by
  rw [List.take_add_one, h, regBits, List.foldl_append]
  rfl
theorem regBits_lt : ∀ {l : List Nat} {r : Nat}, r < 4294967296 → (∀ c ∈ l, c < 2) → regBits r l < 4294967296
  | [], _, h, _ => h
  | c :: l, r, h, hl => regBits_lt (l := l) (stp_lt (Nat.xor_lt_two_pow (n := 32) h (by have := hl c (by simp); omega))) fun x hx => hl x (by simp [hx])

def DivRel (w : World) (l : List Nat) (k : Nat) (v i : Value) (wr : World) : Prop :=
  ∃ m, m + k = l.length ∧ i = .int .i64 (m : Int) ∧ v = .int .u32 ((regBits 4294967295 (l.take m) : Nat) : Int) ∧ w = wr

set_option maxRecDepth 100000 in
theorem ref_of {w : World} {A : Option Addr} {c : Nat} {l : List Nat} (hl : Bts w w.heap.size A l) (hs : Sml l) (hn : l.length ≤ 100000) :
    Calls Tryd.prog 9 #[.slice A l.length c] w (RetB w (.int .u32 ((crc l : Nat) : Int))) := by
  have H14 := Lib.hid (bits_any (c := c) hl hs hn)
  have HC : Hid (crc l = 4294967295 - regBits 4294967295 (allBits l)) := by rw [← reg_bits hs]; rfl
  have H2 : Hid (∀ x ∈ allBits l, x < 2) := fun x hx => allBits_two hx
  have hlen : (allBits l).length ≤ 800000 := by rw [allBits_length]; omega
  obtain ⟨bl, hbl⟩ : ∃ bl, bl = allBits l := ⟨_, rfl⟩
  rw [← hbl] at H14 HC H2 hlen
  clear hl hs hbl
  go_enter Tryd.func9, Tryd.ntmps9
  go_wp2_with fail
  refine H14.out.mono ?_
  rintro e w1 ⟨v, rfl, hown, hb1⟩
  obtain ⟨A1, c1, rfl, hbt⟩ := bts_of_own hown rfl
  have HB := Lib.hid hb1
  have HL := Lib.hid hbt
  clear hown hb1 hbt H14
  go_wp2_with fail
  go_loopg [3, 10] bl.length (fun k v i wr => DivRel w1 bl k v i wr)
  case atStart => exact ⟨0, by simp, rfl, rfl, rfl⟩
  case round =>
    obtain ⟨m, hmk, hi, hr, hw⟩ := hrel
    subst hi hr hw
    have hrl : regBits 4294967295 (bl.take m) < 4294967296 := regBits_lt (by omega) fun x hx => H2.out x (List.mem_of_mem_take hx)
    cases gk with
    | zero =>
      have hge : bl.length ≤ m := by omega
      have HE : Hid (((4294967295 : Int) - (regBits 4294967295 (bl.take m) : Nat)) = ((crc l : Nat) : Int)) := by
        rw [HC.out]
        rw [List.take_of_length_le hge] at hrl ⊢
        show (4294967295 : Int) - (regBits 4294967295 bl : Nat) = ((4294967295 - regBits 4294967295 bl : Nat) : Int)
        omega
      obtain ⟨r, hre⟩ : ∃ r, r = regBits 4294967295 (bl.take m) := ⟨_, rfl⟩
      rw [← hre] at hrl HE ⊢
      clear hre
      go_wp2_with fail
      go_ret
      exact ⟨ret_int HE.out, HB.out⟩
    | succ j =>
      have hm : m < bl.length := by omega
      obtain ⟨x, hx⟩ : ∃ x, bl[m]? = some x := ⟨_, List.getElem?_eq_getElem hm⟩
      obtain ⟨b, o, rfl, hlt, hcells⟩ := HL.out (by omega)
      have cx := hcells m x hx
      have hx2 := H2.out x (List.mem_of_getElem? hx)
      have RN := Lib.hid (regBits_snoc (r0 := 4294967295) hx)
      obtain ⟨r, hre⟩ : ∃ r, r = regBits 4294967295 (bl.take m) := ⟨_, rfl⟩
      rw [← hre] at hrl RN ⊢
      have HM := Lib.hid hmk
      clear hre hx hcells hmk
      obtain ⟨y, f1, ⟨f2, f3⟩ | ⟨f2, f3⟩⟩ := bit_laid hrl hx2
      · go_wp2_with fail
        go_roundg j
        case measure => omega
        case rel => exact ⟨m + 1, by have := HM.out; omega, by go_num, by rw [RN.out], rfl⟩
      · have F3 := Lib.hid f3
        clear f3
        go_wp2_with fail
        go_roundg j
        case measure => omega
        case rel => exact ⟨m + 1, by have := HM.out; omega, by go_num, by rw [RN.out, ← F3.out]; go_num, rfl⟩
end Go.Proofs.YthkmgfompoebdaaDoor
