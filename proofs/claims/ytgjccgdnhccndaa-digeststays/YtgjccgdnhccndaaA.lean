/- The mathematics of digests: the two numbers behind each byte, eight bytes of a number, the digest. -/
import Derived.Test.YtgjccgdnhccndaaProg
import Derived.WalkKit
import Derived.Laws.BitsAllLaws
namespace Go.Proofs.Ytgjccgdnhccndaa
open Go.RowKit

def Sml (l : List Nat) : Prop := ∀ c ∈ l, c < 256
theorem Sml.take {l : List Nat} (h : Sml l) (m : Nat) : Sml (l.take m) := fun c hc => h c (List.mem_of_mem_take hc)
theorem Sml.at {l : List Nat} (h : Sml l) {m c : Nat} (hm : l[m]? = some c) : c < 256 := h c (List.mem_of_getElem? hm)
theorem Sml.append {a b : List Nat} (ha : Sml a) (hb : Sml b) : Sml (a ++ b) := fun c hc => by
  rcases List.mem_append.1 hc with h | h
  · exact ha c h
  · exact hb c h

/-- A behind a byte. -/
def aft (a c : Nat) : Nat := (a * 16777619 + c) % 4294967296
/-- 32 bits rotated left by 7. -/
def rot (s : Nat) : Nat := s * 128 % 4294967296 + s / 33554432
/-- B behind a byte, a the new A. -/
def bft (b a : Nat) : Nat := rot ((b + a) % 4294967296)

theorem aft_lt (a c : Nat) : aft a c < 4294967296 := Nat.mod_lt _ (by omega)
theorem rot_lt {s : Nat} (h : s < 4294967296) : rot s < 4294967296 := by unfold rot; omega
theorem bft_lt (b a : Nat) : bft b a < 4294967296 := rot_lt (Nat.mod_lt _ (by omega))

def nxt (p : Nat × Nat) (c : Nat) : Nat × Nat := (aft p.1 c, bft p.2 (aft p.1 c))
/-- A and B behind bytes. -/
def st (l : List Nat) : Nat × Nat := l.foldl nxt (1, 40389)

theorem st_nil : st [] = (1, 40389) := rfl
theorem st_snoc (l : List Nat) (c : Nat) : st (l ++ [c]) = (aft (st l).1 c, bft (st l).2 (aft (st l).1 c)) := by
  unfold st
  rw [List.foldl_append]
  rfl
theorem foldl_lt : ∀ (l : List Nat) (p : Nat × Nat), p.1 < 4294967296 → p.2 < 4294967296 → (l.foldl nxt p).1 < 4294967296 ∧ (l.foldl nxt p).2 < 4294967296
  | [], _, h1, h2 => ⟨h1, h2⟩
  | c :: l, p, _, _ => foldl_lt l (nxt p c) (aft_lt _ _) (bft_lt _ _)
theorem st_lt (l : List Nat) : (st l).1 < 4294967296 ∧ (st l).2 < 4294967296 := foldl_lt l _ (by decide) (by decide)

/-- The k low bytes of a number, the least first. -/
def lek (k n : Nat) : List Nat := (List.range k).map fun i => n / 256 ^ i % 256
def le8 (n : Nat) : List Nat := lek 8 n
theorem lek_snoc (k n : Nat) : lek (k + 1) n = lek k n ++ [n / 256 ^ k % 256] := by
  unfold lek
  rw [List.range_succ, List.map_append]
  rfl
theorem lek_length (k n : Nat) : (lek k n).length = k := by simp [lek]
theorem le8_length (n : Nat) : (le8 n).length = 8 := lek_length 8 n
theorem lek_sml (k n : Nat) : Sml (lek k n) := by
  intro c hc
  simp only [lek, List.mem_map] at hc
  obtain ⟨i, _, rfl⟩ := hc
  omega
theorem le8_sml (n : Nat) : Sml (le8 n) := lek_sml 8 n
theorem div_next (n k : Nat) : n / 256 ^ k / 256 = n / 256 ^ (k + 1) := by rw [Nat.div_div_eq_div_mul, Nat.pow_succ]

/-- A and B as a number. -/
def asNum (p : Nat × Nat) : Nat := (p.1 * 4294967296 + p.2) % 4611686018427387904
/-- The digest of bytes, as a number. -/
def dig (l : List Nat) : Nat := asNum (st (l ++ le8 l.length))
theorem dig_lt (l : List Nat) : dig l < 4611686018427387904 := Nat.mod_lt _ (by omega)

/-- What Parts digests. -/
def cat (ps : List (List Nat)) (m : Nat) : List Nat := ((ps.take m).map fun l => le8 (dig l)).flatten
theorem cat_zero (ps : List (List Nat)) : cat ps 0 = [] := by simp [cat]
theorem cat_snoc {ps : List (List Nat)} {m : Nat} {l : List Nat} (h : ps[m]? = some l) : cat ps (m + 1) = cat ps m ++ le8 (dig l) := by
  unfold cat
  rw [List.take_add_one, h, List.map_append, List.flatten_append]
  simp
theorem cat_sml (ps : List (List Nat)) (m : Nat) : Sml (cat ps m) := by
  intro c hc
  simp only [cat, List.mem_flatten, List.mem_map] at hc
  obtain ⟨_, ⟨l, _, rfl⟩, hcl⟩ := hc
  exact le8_sml _ c hcl
theorem cat_length (ps : List (List Nat)) : ∀ m, (cat ps m).length ≤ 8 * m := by
  intro m
  induction m with
  | zero => simp [cat]
  | succ m ih =>
    by_cases h : m < ps.length
    · rw [cat_snoc (List.getElem?_eq_getElem h), List.length_append, le8_length]
      omega
    · have e : cat ps (m + 1) = cat ps m := by
        unfold cat
        rw [List.take_of_length_le (by omega), List.take_of_length_le (by omega)]
      rw [e]
      omega

/-- The bits of rotating, of joining two halves, of the mask. -/
theorem rot_or {s : Nat} (h : s < 4294967296) : bits .or .u32 ((s * 128 % 4294967296 : Nat) : Int) ((s / 33554432 : Nat) : Int) = ((rot s : Nat) : Int) := by
  have h1 : s * 128 % 4294967296 % 2 ^ 7 = 0 := by omega
  rw [u32_or_nat _ _ (Nat.mod_lt _ (by omega)) (by omega), nat_join 7 _ _ h1 (by omega)]
  rfl
theorem two_or {a b : Nat} (ha : a < 4294967296) (hb : b < 4294967296) : bits .or .u64 ((a * 4294967296 : Nat) : Int) (b : Int) = ((a * 4294967296 + b : Nat) : Int) := by
  rw [u64_or_nat _ _ (by omega) (by omega), nat_join 32 _ _ (by omega) (by omega)]
theorem mask62 {n : Nat} (h : n < 18446744073709551616) : bits .and .u64 (n : Int) 4611686018427387903 = ((n % 4611686018427387904 : Nat) : Int) := by
  have e := u64_and_nat n 4611686018427387903 h (by omega)
  rw [Nat.and_two_pow_sub_one_eq_mod n 62] at e
  exact e

/-- What an int is as 64 bits. -/
def u64 (z : Int) : Nat := (z % 18446744073709551616).toNat
theorem u64_lt (z : Int) : u64 z < 18446744073709551616 := by unfold u64; omega
theorem u64_nat {n : Nat} (h : n < 18446744073709551616) : u64 (n : Int) = n := by unfold u64; omega
theorem u64_wrap (z : Int) : IntKind.u64.wrap z = ((u64 z : Nat) : Int) := by
  simp [IntKind.wrap, IntKind.bits, IntKind.signed, u64]
  omega
end Go.Proofs.Ytgjccgdnhccndaa
