/- The plain mathematics of CRC-32: one step of the register is linear and one to one; four steps are the table's; a byte's bits one by one are its eight steps; 1 does not come back within 4100 steps. -/
import Derived.KernelRfl
namespace Go.Proofs.YthkmgfompoebdaaDoor

def stp (r : Nat) : Nat := if r % 2 = 1 then r / 2 ^^^ 3988292384 else r / 2
def stps : Nat → Nat → Nat
  | 0, r => r
  | k + 1, r => stps k (stp r)

theorem xor_mod2 (a b : Nat) : (a ^^^ b) % 2 = (a % 2 + b % 2) % 2 := by
  have h : (a ^^^ b) % 2 ^ 1 = a % 2 ^ 1 ^^^ b % 2 ^ 1 := Nat.xor_mod_two_pow
  simp only [Nat.pow_one] at h
  rw [h]
  have ha : a % 2 = 0 ∨ a % 2 = 1 := by omega
  have hb : b % 2 = 0 ∨ b % 2 = 1 := by omega
  rcases ha with ha | ha <;> rcases hb with hb | hb <;> rw [ha, hb] <;> rfl

theorem xor_xor_same (a b : Nat) : a ^^^ b ^^^ b = a := by rw [Nat.xor_assoc, Nat.xor_self, Nat.xor_zero]
theorem eq_of_xor {a b : Nat} (h : a ^^^ b = 0) : a = b := by
  have := xor_xor_same a b
  rw [h, Nat.zero_xor] at this
  exact this.symm

theorem stp_xor (a b : Nat) : stp (a ^^^ b) = stp a ^^^ stp b := by
  unfold stp
  rw [xor_mod2, Nat.xor_div_two]
  have ha : a % 2 = 0 ∨ a % 2 = 1 := by omega
  have hb : b % 2 = 0 ∨ b % 2 = 1 := by omega
  rcases ha with ha | ha <;> rcases hb with hb | hb <;> rw [ha, hb] <;> simp
  · rw [Nat.xor_assoc]
  · rw [Nat.xor_assoc, Nat.xor_comm (b / 2), ← Nat.xor_assoc]
  · rw [Nat.xor_assoc, ← Nat.xor_assoc 3988292384, Nat.xor_comm 3988292384 (b / 2), Nat.xor_assoc (b / 2), Nat.xor_self, Nat.xor_zero]

theorem stp_lt {r : Nat} (h : r < 4294967296) : stp r < 4294967296 := by
  unfold stp
  split
  · exact Nat.xor_lt_two_pow (n := 32) (by omega) (by omega)
  · omega

theorem stp_zero {r : Nat} (hr : r < 4294967296) (h : stp r = 0) : r = 0 := by
  unfold stp at h
  split at h
  · have := eq_of_xor h
    omega
  · omega

theorem stp_inj {a b : Nat} (ha : a < 4294967296) (hb : b < 4294967296) (h : stp a = stp b) : a = b := by
  refine eq_of_xor (stp_zero (Nat.xor_lt_two_pow (n := 32) ha hb) ?_)
  rw [stp_xor, h, Nat.xor_self]

theorem stps_xor : ∀ (k a b : Nat), stps k (a ^^^ b) = stps k a ^^^ stps k b
  | 0, _, _ => rfl
  | k + 1, a, b => by show stps k (stp (a ^^^ b)) = _; rw [stp_xor]; exact stps_xor k _ _
theorem stps_lt : ∀ (k : Nat) {r : Nat}, r < 4294967296 → stps k r < 4294967296
  | 0, _, h => h
  | k + 1, _, h => stps_lt k (stp_lt h)
theorem stps_inj : ∀ (k : Nat) {a b : Nat}, a < 4294967296 → b < 4294967296 → stps k a = stps k b → a = b
  | 0, _, _, _, _, h => h
  | k + 1, _, _, ha, hb, h => stp_inj ha hb (stps_inj k (stp_lt ha) (stp_lt hb) h)
theorem stps_add : ∀ (a b r : Nat), stps (a + b) r = stps b (stps a r)
  | 0, b, r => by rw [Nat.zero_add]; rfl
  | a + 1, b, r => by rw [Nat.add_right_comm]; exact stps_add a b (stp r)
theorem stps_zero : ∀ k : Nat, stps k 0 = 0
  | 0 => rfl
  | k + 1 => stps_zero k

theorem split_xor (x k : Nat) : x = 2 ^ k * (x / 2 ^ k) ^^^ x % 2 ^ k := by
  have hp : 0 < 2 ^ k := Nat.two_pow_pos k
  have h1 : (2 ^ k * (x / 2 ^ k) ^^^ x % 2 ^ k) / 2 ^ k = x / 2 ^ k := by
    rw [Nat.xor_div_two_pow, Nat.mul_div_cancel_left _ hp, Nat.div_eq_of_lt (Nat.mod_lt _ hp), Nat.xor_zero]
  have h2 : (2 ^ k * (x / 2 ^ k) ^^^ x % 2 ^ k) % 2 ^ k = x % 2 ^ k := by
    rw [Nat.xor_mod_two_pow, Nat.mul_mod_right, Nat.mod_mod, Nat.zero_xor]
  have h3 := Nat.div_add_mod (2 ^ k * (x / 2 ^ k) ^^^ x % 2 ^ k) (2 ^ k)
  rw [h1, h2] at h3
  have h4 := Nat.div_add_mod x (2 ^ k)
  omega

theorem stp_double (q : Nat) : stp (2 * q) = q := by
  unfold stp
  rw [if_neg (by omega)]
  omega
theorem stps_pow : ∀ (k q : Nat), stps k (2 ^ k * q) = q
  | 0, q => by simp [stps]
  | k + 1, q => by
    show stps k (stp (2 ^ (k + 1) * q)) = q
    rw [Nat.pow_succ, Nat.mul_comm (2 ^ k) 2, Nat.mul_assoc, stp_double]
    exact stps_pow k q

/-- The table of the program's text. -/
def tab : List Nat := [0, 498536548, 997073096, 651767980, 1994146192, 1802195444, 1303535960, 1342533948, 3988292384, 4027552580, 3604390888, 3412177804, 2607071920, 2262029012, 2685067896, 3183342108]
def tabAt (j : Nat) : Nat := tab.getD j 0

theorem tabAt_lt (j : Nat) : tabAt j < 4294967296 := by
  by_cases h : j < 16
  · have : ∀ j : Fin 16, tabAt j.val < 4294967296 := by decide
    exact this ⟨j, h⟩
  · unfold tabAt
    rw [List.getD_eq_getElem?_getD, List.getElem?_eq_none (by simp [tab]; omega)]
    simp

theorem tabAt_stps {j : Nat} (h : j < 16) : stps 4 j = tabAt j := by
  have : ∀ j : Fin 16, stps 4 j.val = tabAt j.val := by decide
  exact this ⟨j, h⟩

theorem nib_stps (r : Nat) : stps 4 r = r / 16 ^^^ tabAt (r % 16) := by
  have h := split_xor r 4
  have e : stps 4 r = stps 4 (2 ^ 4 * (r / 2 ^ 4) ^^^ r % 2 ^ 4) := by rw [← h]
  rw [e, stps_xor, stps_pow, tabAt_stps (by omega)]

/-- The register behind a byte. -/
def byt (r c : Nat) : Nat := stps 8 (r ^^^ c)
theorem byt_nibs (r c : Nat) : byt r c = stps 4 (stps 4 (r ^^^ c)) := stps_add 4 4 _
theorem byt_lt {r c : Nat} (hr : r < 4294967296) (hc : c < 256) : byt r c < 4294967296 :=
  stps_lt 8 (Nat.xor_lt_two_pow (n := 32) hr (by omega))

/-- The register behind bytes. -/
def reg (r : Nat) (l : List Nat) : Nat := l.foldl byt r
theorem reg_lt : ∀ {l : List Nat} {r : Nat}, r < 4294967296 → (∀ c ∈ l, c < 256) → reg r l < 4294967296
  | [], _, h, _ => h
  | c :: l, r, h, hl => reg_lt (l := l) (byt_lt h (hl c (by simp))) fun x hx => hl x (by simp [hx])
theorem reg_append (r : Nat) (a b : List Nat) : reg r (a ++ b) = reg (reg r a) b := List.foldl_append

/-- A byte's bits, one by one. -/
def bitsOf : Nat → Nat → List Nat
  | 0, _ => []
  | k + 1, c => c % 2 :: bitsOf k (c / 2)
def bitStp (r x : Nat) : Nat := stp (r ^^^ x)
def regBits (r : Nat) (l : List Nat) : Nat := l.foldl bitStp r

theorem bits_step : ∀ (k r c : Nat), stps k (r ^^^ c) = regBits r (bitsOf k c) ^^^ c / 2 ^ k
  | 0, r, c => by simp [stps, regBits, bitsOf]
  | k + 1, r, c => by
    have hs : r ^^^ c = (r ^^^ c % 2) ^^^ 2 * (c / 2) := by
      have h := split_xor c 1
      simp only [Nat.pow_one] at h
      rw [Nat.xor_assoc, Nat.xor_comm (c % 2), ← h]
    have h1 : stp (r ^^^ c) = stp (r ^^^ c % 2) ^^^ c / 2 := by
      have : stp (r ^^^ c) = stp ((r ^^^ c % 2) ^^^ 2 * (c / 2)) := by rw [← hs]
      rw [this, stp_xor, stp_double]
    show stps k (stp (r ^^^ c)) = _
    rw [h1, bits_step k, Nat.div_div_eq_div_mul, Nat.pow_succ, Nat.mul_comm 2]
    rfl
theorem byt_bits {r c : Nat} (hc : c < 256) : byt r c = regBits r (bitsOf 8 c) := by
  have h := bits_step 8 r c
  rw [show c / 2 ^ 8 = 0 by omega, Nat.xor_zero] at h
  exact h

def allBits : List Nat → List Nat
  | [] => []
  | c :: l => bitsOf 8 c ++ allBits l
theorem reg_bits : ∀ {l : List Nat} {r : Nat}, (∀ c ∈ l, c < 256) → reg r l = regBits r (allBits l)
  | [], _, _ => rfl
  | c :: l, r, h => by
    show reg (byt r c) l = _
    rw [byt_bits (h c (by simp)), reg_bits (l := l) fun x hx => h x (by simp [hx])]
    exact List.foldl_append.symm

/-- The checksum. -/
def crc (l : List Nat) : Nat := 4294967295 - reg 4294967295 l

/-- 1 does not come back. -/
def chk : Nat → Nat → Bool
  | 0, _ => true
  | k + 1, r => !(stp r == 1) && chk k (stp r)
theorem chk_of : ∀ {k r : Nat}, chk k r = true → ∀ e, 0 < e → e ≤ k → stps e r ≠ 1
  | 0, _, _, e, h0, h1 => by omega
  | k + 1, r, h, e, h0, h1 => by
    simp only [chk, Bool.and_eq_true, Bool.not_eq_true', beq_eq_false_iff_ne] at h
    match e, h0 with
    | 1, _ => exact h.1
    | e + 2, _ => exact chk_of h.2 (e + 1) (by omega) (by omega)
set_option maxRecDepth 100000 in
theorem chk_all : chk 4100 1 = true := by kernel_rfl
theorem no_return {e : Nat} (h0 : 0 < e) (h1 : e ≤ 4100) : stps e 1 ≠ 1 := chk_of chk_all e h0 h1

theorem stps_one_inj {a b : Nat} (ha : a ≤ 4100) (hb : b ≤ 4100) (h : stps a 1 = stps b 1) : a = b := by
  rcases Nat.lt_trichotomy a b with hl | he | hl
  · exfalso
    obtain ⟨d, rfl⟩ : ∃ d, b = d + a := ⟨b - a, by omega⟩
    rw [stps_add] at h
    exact no_return (e := d) (by omega) (by omega) (stps_inj a (by omega) (stps_lt d (by omega)) h).symm
  · exact he
  · exfalso
    obtain ⟨d, rfl⟩ : ∃ d, a = d + b := ⟨a - b, by omega⟩
    rw [stps_add] at h
    exact no_return (e := d) (by omega) (by omega) (stps_inj b (stps_lt d (by omega)) (by omega) h)
end Go.Proofs.YthkmgfompoebdaaDoor
