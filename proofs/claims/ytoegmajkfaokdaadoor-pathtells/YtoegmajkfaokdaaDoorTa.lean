/- The mathematics of numbers to the base 128: a number's bytes, and which bytes begin with a number. -/
import Derived.Test.YtoegmajkfaokdaaDoorProg
namespace Go.Proofs.YtoegmajkfaokdaaDoor.Tp

/-- A number's bytes. -/
def enc (n : Nat) : List Nat := if n < 128 then [n] else (128 + n % 128) :: enc (n / 128)
termination_by n
decreasing_by omega

def val : List Nat → Nat
  | [] => 0
  | d :: ds => d % 128 + 128 * val ds

def Big (l : List Nat) : Prop := ∀ d ∈ l, 128 ≤ d ∧ d < 256
def Sml (l : List Nat) : Prop := ∀ c ∈ l, c < 256

theorem enc_small {n : Nat} (h : n < 128) : enc n = [n] := by rw [enc, if_pos h]
theorem enc_big {n : Nat} (h : 128 ≤ n) : enc n = (128 + n % 128) :: enc (n / 128) := by rw [enc, if_neg (by omega)]

theorem Big.tail {d : Nat} {l : List Nat} (h : Big (d :: l)) : Big l := fun c hc => h c (by simp [hc])
theorem Big.head {d : Nat} {l : List Nat} (h : Big (d :: l)) : 128 ≤ d ∧ d < 256 := h d (by simp)

theorem val_snoc (x : Nat) : ∀ ds : List Nat, val (ds ++ [x]) = val ds + (x % 128) * 128 ^ ds.length
  | [] => by simp [val]
  | d :: ds => by
    simp only [List.cons_append, val, List.length_cons, Nat.pow_succ]
    rw [val_snoc x ds, Nat.mul_add, ← Nat.mul_assoc (x % 128), Nat.mul_comm 128 (x % 128 * 128 ^ ds.length)]
    omega

theorem val_lt : ∀ ds : List Nat, val ds < 128 ^ ds.length
  | [] => by simp [val]
  | d :: ds => by
    have := val_lt ds
    simp only [val, List.length_cons, Nat.pow_succ]
    omega

theorem enc_of : ∀ (ds : List Nat) (x : Nat), Big ds → x < 128 → (x = 0 → ds = []) → enc (val ds + x * 128 ^ ds.length) = ds ++ [x]
  | [], x, _, hx, _ => by simp [val, enc_small hx]
  | d :: ds, x, hb, hx, h0 => by
    have hx0 : x ≠ 0 := fun h => by cases h0 h
    have ih := enc_of ds x hb.tail hx (fun h => absurd h hx0)
    have hd := hb.head
    have e1 : val (d :: ds) + x * 128 ^ (d :: ds).length = (d - 128) + 128 * (val ds + x * 128 ^ ds.length) := by
      simp only [val, List.length_cons, Nat.pow_succ]
      rw [Nat.mul_add, ← Nat.mul_assoc x, Nat.mul_comm 128 (x * 128 ^ ds.length)]
      omega
    have hp : 0 < x * 128 ^ ds.length := Nat.mul_pos (by omega) (Nat.pow_pos (by omega))
    rw [e1]
    obtain ⟨m, hm⟩ : ∃ m, m = val ds + x * 128 ^ ds.length := ⟨_, rfl⟩
    rw [← hm] at ih ⊢
    rw [enc_big (by omega), show (d - 128 + 128 * m) / 128 = m by omega, ih, show 128 + (d - 128 + 128 * m) % 128 = d by omega]
    rfl

theorem enc_split (n : Nat) : ∃ ds x, enc n = ds ++ [x] ∧ Big ds ∧ x < 128 ∧ (x = 0 → ds = []) ∧ n = val ds + x * 128 ^ ds.length := by
  induction n using Nat.strongRecOn with
  | ind n ih =>
    by_cases h : n < 128
    · exact ⟨[], n, by rw [enc_small h]; rfl, (fun c hc => by cases hc), h, fun _ => rfl, by simp [val]⟩
    · obtain ⟨ds, x, h1, h2, h3, h4, h5⟩ := ih (n / 128) (by omega)
      refine ⟨(128 + n % 128) :: ds, x, by rw [enc_big (by omega), h1]; rfl, ?_, h3, ?_, ?_⟩
      · intro c hc
        rcases List.mem_cons.1 hc with rfl | hc
        · omega
        · exact h2 c hc
      · intro hx
        have := h4 hx
        subst this
        subst hx
        simp [val] at h5
        omega
      · simp only [val, List.length_cons, Nat.pow_succ]
        have : x * (128 ^ ds.length * 128) = 128 * (x * 128 ^ ds.length) := by rw [← Nat.mul_assoc, Nat.mul_comm]
        omega

theorem enc_sml (n : Nat) : Sml (enc n) := by
  obtain ⟨ds, x, h, hb, hx, _, _⟩ := enc_split n
  intro c hc
  rw [h] at hc
  rcases List.mem_append.1 hc with hc | hc
  · exact (hb c hc).2
  · simp at hc; omega

theorem enc_pos (n : Nat) : 0 < (enc n).length := by
  obtain ⟨ds, x, h, _⟩ := enc_split n
  simp [h]

theorem split_uniq : ∀ {ds ds' : List Nat} {x x' : Nat} {r r' : List Nat}, Big ds → Big ds' → x < 128 → x' < 128 → ds ++ x :: r = ds' ++ x' :: r' → ds = ds' ∧ x = x' ∧ r = r'
  | [], [], x, x', r, r', _, _, _, _, h => by simp at h; exact ⟨rfl, h.1, h.2⟩
  | [], d :: ds, x, x', r, r', _, hb, hx, _, h => by
    simp at h
    have := hb.head
    omega
  | d :: ds, [], x, x', r, r', hb, _, _, hx, h => by
    simp at h
    have := hb.head
    omega
  | d :: ds, d' :: ds', x, x', r, r', hb, hb', hx, hx', h => by
    simp at h
    obtain ⟨h1, h2, h3⟩ := split_uniq hb.tail hb'.tail hx hx' h.2
    exact ⟨by rw [h.1, h1], h2, h3⟩

theorem enc_prefix {m n : Nat} {r r' : List Nat} (h : enc m ++ r = enc n ++ r') : m = n ∧ r = r' := by
  obtain ⟨ds, x, h1, h2, h3, _, h5⟩ := enc_split m
  obtain ⟨ds', x', h1', h2', h3', _, h5'⟩ := enc_split n
  rw [h1, h1', List.append_assoc, List.append_assoc] at h
  obtain ⟨e1, e2, e3⟩ := split_uniq h2 h2' h3 h3' h
  exact ⟨by rw [h5, h5', e1, e2], e3⟩

theorem enc_length : ∀ (k n : Nat), n < 128 ^ (k + 1) → (enc n).length ≤ k + 1
  | 0, n, h => by rw [enc_small (by simpa using h)]; simp
  | k + 1, n, h => by
    by_cases h1 : n < 128
    · rw [enc_small h1]; simp
    · rw [enc_big (by omega), List.length_cons]
      have := enc_length k (n / 128) (by rw [Nat.pow_succ] at h; omega)
      omega

theorem enc_nine {n : Nat} (h : n < 9223372036854775808) : (enc n).length ≤ 9 := enc_length 8 n (by simpa using h)

/-- These bytes begin with no number that is at most most. -/
def NoNum (l : List Nat) (most : Int) : Prop := ∀ m r, l = enc m ++ r → m < 9223372036854775808 → most < (m : Int)

theorem no_nine {l : List Nat} {most : Int} (hb : Big (l.take 9)) : NoNum l most := by
  intro m r h hm
  obtain ⟨ds, x, h1, h2, h3, _, _⟩ := enc_split m
  have hlen := enc_nine hm
  rw [h1, List.length_append, List.length_singleton] at hlen
  have hx : x ∈ l.take 9 := by
    rw [h, h1, List.append_assoc, List.take_append]
    refine List.mem_append_right _ ?_
    obtain ⟨q, hq⟩ : ∃ q, 9 - ds.length = q + 1 := ⟨9 - ds.length - 1, by omega⟩
    rw [hq]
    simp
  have := hb x hx
  omega

theorem no_end {l : List Nat} {most : Int} (hb : Big l) : NoNum l most := by
  intro m r h hm
  obtain ⟨ds, x, h1, h2, h3, _, _⟩ := enc_split m
  have := hb x (by rw [h, h1]; simp)
  omega

theorem take_drop_at {l : List Nat} {i x : Nat} (h : l[i]? = some x) : l = l.take i ++ x :: l.drop (i + 1) := by
  have hi := (List.getElem?_eq_some_iff.1 h).1
  have he := (List.getElem?_eq_some_iff.1 h).2
  conv => lhs; rw [← List.take_append_drop i l]
  rw [List.drop_eq_getElem_cons hi, he]

theorem no_zero {l : List Nat} {most : Int} {i : Nat} (hb : Big (l.take i)) (h : l[i]? = some 0) (hi : 0 < i) : NoNum l most := by
  intro m r hl hm
  obtain ⟨ds, x, h1, h2, h3, h4, _⟩ := enc_split m
  have e : ds ++ x :: r = l.take i ++ 0 :: l.drop (i + 1) := by
    rw [← take_drop_at h, hl, h1, List.append_assoc]
    rfl
  have hlt := (List.getElem?_eq_some_iff.1 h).1
  obtain ⟨e1, e2, _⟩ := split_uniq h2 hb h3 (by omega) e
  have e3 := h4 e2
  rw [e3] at e1
  have hlen := congrArg List.length e1
  rw [List.length_take, List.length_nil] at hlen
  omega

theorem no_long {l r : List Nat} {most : Int} {n : Nat} (h : l = enc n ++ r) (hm : most < (n : Int)) : NoNum l most := by
  intro m r' h' _
  rw [h] at h'
  rw [← (enc_prefix h').1]
  exact hm

theorem num_hit {l : List Nat} {i x : Nat} (hb : Big (l.take i)) (h : l[i]? = some x) (hx : x < 128) (h0 : x = 0 → i = 0) : l = enc (val (l.take i) + x * 128 ^ i) ++ l.drop (i + 1) := by
  have hi := (List.getElem?_eq_some_iff.1 h).1
  have hlen : (l.take i).length = i := by simp; omega
  have e := enc_of (l.take i) x hb hx (fun hz => by rw [h0 hz]; rfl)
  rw [hlen] at e
  rw [e, List.append_assoc]
  exact take_drop_at h

theorem hit_length {l : List Nat} {i x : Nat} (hb : Big (l.take i)) (h : l[i]? = some x) (hx : x < 128) (h0 : x = 0 → i = 0) : (enc (val (l.take i) + x * 128 ^ i)).length = i + 1 := by
  have hi := (List.getElem?_eq_some_iff.1 h).1
  have hlen : (l.take i).length = i := by simp; omega
  have e := enc_of (l.take i) x hb hx (fun hz => by rw [h0 hz]; rfl)
  rw [hlen] at e
  rw [e, List.length_append, hlen]
  rfl

theorem Big.snoc {l : List Nat} {i x : Nat} (hb : Big (l.take i)) (h : l[i]? = some x) (hx : 128 ≤ x) (hx2 : x < 256) : Big (l.take (i + 1)) := by
  rw [List.take_add_one, h]
  intro c hc
  rcases List.mem_append.1 hc with hc | hc
  · exact hb c hc
  · simp at hc; omega

theorem val_take {l : List Nat} {i x : Nat} (h : l[i]? = some x) : val (l.take (i + 1)) = val (l.take i) + (x % 128) * 128 ^ i := by
  have hi := (List.getElem?_eq_some_iff.1 h).1
  have hlen : (l.take i).length = i := by simp; omega
  rw [List.take_add_one, h, Option.toList_some, val_snoc, hlen]

theorem val_take_lt (l : List Nat) (i : Nat) : val (l.take i) < 128 ^ i :=
  Nat.lt_of_lt_of_le (val_lt _) (Nat.pow_le_pow_right (by omega) (by simp; omega))
end Go.Proofs.YtoegmajkfaokdaaDoor.Tp
