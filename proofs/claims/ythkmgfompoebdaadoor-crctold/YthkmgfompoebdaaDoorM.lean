/- The plain mathematics of inverted bits: what one inverted bit adds to the syndrome, and that no two positions of at most 504 bytes add the same. -/
import Derived.Test.YthkmgfompoebdaaDoorH
namespace Go.Proofs.YthkmgfompoebdaaDoor

theorem not_xor {v : Nat} (h : v < 4294967296) : 4294967295 - v = 4294967295 ^^^ v := by
  have := BitVec.toNat_not (x := BitVec.ofNat 32 v)
  rw [← BitVec.allOnes_xor, BitVec.toNat_xor, BitVec.toNat_ofNat, BitVec.toNat_allOnes, Nat.mod_eq_of_lt (by omega)] at this
  simpa using this.symm

theorem xor_right_comm (a b c : Nat) : a ^^^ b ^^^ c = a ^^^ c ^^^ b := by rw [Nat.xor_assoc, Nat.xor_comm b, ← Nat.xor_assoc]

theorem byt_left (a d c : Nat) : byt (a ^^^ d) c = byt a c ^^^ stps 8 d := by
  unfold byt
  rw [xor_right_comm, stps_xor]
theorem byt_right (a d c : Nat) : byt a (c ^^^ d) = byt a c ^^^ stps 8 d := by
  unfold byt
  rw [← Nat.xor_assoc, stps_xor]
theorem reg_left : ∀ (l : List Nat) (a d : Nat), reg (a ^^^ d) l = reg a l ^^^ stps (8 * l.length) d
  | [], _, _ => rfl
  | c :: l, a, d => by
    show reg (byt (a ^^^ d) c) l = reg (byt a c) l ^^^ _
    rw [byt_left, reg_left l, ← stps_add, List.length_cons, show 8 + 8 * l.length = 8 * (l.length + 1) by omega]
theorem reg_mid (r : Nat) (x y : List Nat) (c d : Nat) : reg r (x ++ (c ^^^ d) :: y) = reg r (x ++ c :: y) ^^^ stps (8 * (y.length + 1)) d := by
  rw [reg_append, reg_append]
  show reg (byt (reg r x) (c ^^^ d)) y = reg (byt (reg r x) c) y ^^^ _
  rw [byt_right, reg_left, ← stps_add, show 8 + 8 * y.length = 8 * (y.length + 1) by omega]

theorem mul_xor (x y : Nat) : (x ^^^ y) * 256 = x * 256 ^^^ y * 256 := by
  have h1 : (x * 2 ^ 8 ^^^ y * 2 ^ 8) / 2 ^ 8 = x ^^^ y := by
    rw [Nat.xor_div_two_pow, Nat.mul_div_cancel _ (by decide), Nat.mul_div_cancel _ (by decide)]
  have h2 : (x * 2 ^ 8 ^^^ y * 2 ^ 8) % 2 ^ 8 = 0 := by
    rw [Nat.xor_mod_two_pow, Nat.mul_mod_left, Nat.mul_mod_left, Nat.xor_self]
  have h3 := Nat.div_add_mod (x * 2 ^ 8 ^^^ y * 2 ^ 8) (2 ^ 8)
  rw [h1, h2] at h3
  have e : (2 : Nat) ^ 8 = 256 := by decide
  rw [e] at h3
  omega
theorem add_xor (v : Nat) {c : Nat} (h : c < 256) : v * 256 + c = v * 256 ^^^ c := by
  have h1 := split_xor (v * 256 + c) 8
  rw [show (v * 256 + c) / 2 ^ 8 = v by omega, show (v * 256 + c) % 2 ^ 8 = c by omega] at h1
  rw [h1, Nat.mul_comm]

/-- The number of bytes, by XORs. -/
def numX (v : Nat) (l : List Nat) : Nat := l.foldl (fun v c => v * 256 ^^^ c) v
theorem numX_eq : ∀ {l : List Nat} (v : Nat), Sml l → l.foldl (fun v c => v * 256 + c) v = numX v l
  | [], _, _ => rfl
  | c :: l, v, h => by
    show l.foldl (fun v c => v * 256 + c) (v * 256 + c) = numX (v * 256 ^^^ c) l
    rw [add_xor v (h c (by simp))]
    exact numX_eq _ fun x hx => h x (by simp [hx])
theorem numX_left : ∀ (l : List Nat) (a d : Nat), numX (a ^^^ d) l = numX a l ^^^ d * 256 ^ l.length
  | [], _, _ => by simp [numX]
  | c :: l, a, d => by
    show numX ((a ^^^ d) * 256 ^^^ c) l = numX (a * 256 ^^^ c) l ^^^ _
    rw [mul_xor, xor_right_comm, numX_left l, List.length_cons, Nat.pow_succ, Nat.mul_assoc, Nat.mul_comm 256]
theorem numX_append (v : Nat) (x y : List Nat) : numX v (x ++ y) = numX (numX v x) y := List.foldl_append
theorem numX_mid (x y : List Nat) (v c d : Nat) : numX v (x ++ (c ^^^ d) :: y) = numX v (x ++ c :: y) ^^^ d * 256 ^ y.length := by
  rw [numX_append, numX_append]
  show numX (numX v x * 256 ^^^ (c ^^^ d)) y = numX (numX v x * 256 ^^^ c) y ^^^ _
  rw [← Nat.xor_assoc, numX_left]

/-- A list with bit i inverted. -/
def flip (s : List Nat) (i : Nat) : List Nat := s.set (i / 8) (s.getD (i / 8) 0 ^^^ 2 ^ (i % 8))
theorem flip_length (s : List Nat) (i : Nat) : (flip s i).length = s.length := by simp [flip]
theorem two_pow_lt (i : Nat) : 2 ^ (i % 8) < 256 := by
  have : 2 ^ (i % 8) ≤ 2 ^ 7 := Nat.pow_le_pow_right (by omega) (by omega)
  omega
theorem flip_sml {s : List Nat} (h : Sml s) (i : Nat) : Sml (flip s i) := by
  intro c hc
  rcases List.mem_or_eq_of_mem_set hc with hc | hc
  · exact h c hc
  · subst hc
    refine Nat.xor_lt_two_pow (n := 8) ?_ (two_pow_lt i)
    rw [List.getD_eq_getElem?_getD]
    cases hk : s[i / 8]? with
    | none => simp
    | some x => exact h x (List.mem_of_getElem? hk)
theorem flip_parts {s : List Nat} {i : Nat} (h : i / 8 < s.length) : ∃ x c y, s = x ++ c :: y ∧ x.length = i / 8 ∧ flip s i = x ++ (c ^^^ 2 ^ (i % 8)) :: y := by
  refine ⟨s.take (i / 8), s[i / 8], s.drop (i / 8 + 1), by simp, by rw [List.length_take]; omega, ?_⟩
  unfold flip
  rw [List.getD_eq_getElem?_getD, List.getElem?_eq_getElem h, Option.getD_some, List.set_eq_take_append_cons_drop, if_pos h]
theorem flip_twice {s : List Nat} {i : Nat} (h : i / 8 < s.length) : flip (flip s i) i = s := by
  obtain ⟨x, c, y, rfl, hx, hf⟩ := flip_parts h
  rw [hf, flip, ← hx]
  simp [List.getD_eq_getElem?_getD, xor_xor_same]

/-- What an inverted bit adds: in the first n bytes, and in the four behind them. -/
def dlt (n i : Nat) : Nat := if i < 8 * n then stps (8 * (n - i / 8)) (2 ^ (i % 8)) else 2 ^ (i % 8) * 256 ^ (3 - (i / 8 - n))
def synd (p q : List Nat) : Nat := crc p ^^^ num q

theorem crc_xor {p : List Nat} (h : Sml p) : crc p = 4294967295 ^^^ reg 4294967295 p := not_xor (reg_lt (by omega) h)

theorem synd_flip {p q : List Nat} (hp : Sml p) (hq : Sml q) (h4 : q.length = 4) {i : Nat} (hi : i < 8 * (p.length + 4)) :
    ∃ p' q', flip (p ++ q) i = p' ++ q' ∧ p'.length = p.length ∧ q'.length = 4 ∧ synd p' q' = synd p q ^^^ dlt p.length i := by
  by_cases hb : i < 8 * p.length
  · obtain ⟨x, c, y, rfl, hx, hf⟩ := flip_parts (s := p) (i := i) (by omega)
    refine ⟨flip (x ++ c :: y) i, q, ?_, flip_length _ _, h4, ?_⟩
    · unfold flip
      rw [List.set_append_left _ _ (by omega), List.getD_eq_getElem?_getD, List.getD_eq_getElem?_getD, List.getElem?_append_left (by omega)]
    · have hs : Sml (flip (x ++ c :: y) i) := flip_sml hp i
      unfold synd dlt
      rw [if_pos hb, crc_xor hs, crc_xor hp, hf, reg_mid, ← hx]
      have hl : (x ++ c :: y).length - x.length = y.length + 1 := by simp
      rw [hl, ← Nat.xor_assoc, xor_right_comm]
  · obtain ⟨x, c, y, rfl, hx, hf⟩ := flip_parts (s := q) (i := i - 8 * p.length) (by omega)
    have e1 : (i - 8 * p.length) / 8 = i / 8 - p.length := by omega
    have e2 : (i - 8 * p.length) % 8 = i % 8 := by omega
    refine ⟨p, flip (x ++ c :: y) (i - 8 * p.length), ?_, rfl, by rw [flip_length]; exact h4, ?_⟩
    · unfold flip
      rw [List.set_append_right _ _ (by omega), List.getD_eq_getElem?_getD, List.getD_eq_getElem?_getD, List.getElem?_append_right (by omega), e1, e2]
    · have hs : Sml (flip (x ++ c :: y) (i - 8 * p.length)) := flip_sml hq _
      unfold synd dlt
      rw [if_neg hb, num, num, numX_eq 0 hs, numX_eq 0 hq, hf, numX_mid, e2, Nat.xor_assoc]
      have hl : y.length = 3 - (i / 8 - p.length) := by simp at h4; omega
      rw [hl]

theorem stps_one {a t : Nat} (h : t ≤ a) : stps a (2 ^ t) = stps (a - t) 1 := by
  have e : stps t (2 ^ t) = 1 := by simpa using stps_pow t 1
  rw [show a = t + (a - t) by omega, stps_add, e, Nat.add_sub_cancel_left]

def place (n i : Nat) : Nat := if i < 8 * n then 8 * n + 31 - i else 31 - (8 * (3 - (i / 8 - n)) + i % 8)
theorem dlt_place (n i : Nat) : stps 31 (dlt n i) = stps (place n i) 1 := by
  unfold dlt place
  split
  · rw [← stps_add, stps_one (by omega)]
    congr 1
    omega
  · have e : 2 ^ (i % 8) * 256 ^ (3 - (i / 8 - n)) = 2 ^ (8 * (3 - (i / 8 - n)) + i % 8) := by
      rw [show (256 : Nat) = 2 ^ 8 by decide, ← Nat.pow_mul, ← Nat.pow_add, Nat.add_comm]
    rw [e, stps_one (by omega)]
theorem place_le {n i : Nat} : place n i ≤ 8 * n + 31 := by unfold place; split <;> omega
theorem place_inj {n i j : Nat} (hi : i < 8 * (n + 4)) (hj : j < 8 * (n + 4)) (h : place n i = place n j) : i = j := by
  unfold place at h
  split at h <;> split at h <;> omega
theorem dlt_inj {n i j : Nat} (hn : n ≤ 500) (hi : i < 8 * (n + 4)) (hj : j < 8 * (n + 4)) (h : dlt n i = dlt n j) : i = j := by
  have := dlt_place n i
  rw [h, dlt_place n j] at this
  have h1 := place_le (n := n) (i := i)
  have h2 := place_le (n := n) (i := j)
  exact place_inj hi hj (stps_one_inj (by omega) (by omega) this).symm
theorem dlt_ne (n i : Nat) : dlt n i ≠ 0 := by
  intro h
  have e := dlt_place n i
  rw [h, stps_zero] at e
  have := stps_inj (place n i) (a := 0) (b := 1) (by omega) (by omega) (by rw [stps_zero]; exact e)
  omega
end Go.Proofs.YthkmgfompoebdaaDoor
