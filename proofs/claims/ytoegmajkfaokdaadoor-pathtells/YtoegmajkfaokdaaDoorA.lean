/- The mathematics of categories: numerals, texts of paths and categories, what a text is read as. -/
import Derived.Lib.ItoaNum
import Derived.Lib.AtoiTie
import Derived.Lib.IndexMore
import Derived.Lib.IndexLaws
import Derived.Lib.Bytealg
namespace Go.Proofs.YtoegmajkfaokdaaDoor
open Go.Lib

def isDig (c : UInt8) : Prop := 48 ≤ c.toNat ∧ c.toNat ≤ 57

theorem dig_of {k : Nat} (h : k < 10) : (UInt8.ofNat (48 + k)).toNat = 48 + k := by
  rw [UInt8.toNat_ofNat']
  omega
theorem dec_ne (u : Nat) : decDigits u ≠ [] := by
  rw [decDigits]
  split <;> simp
theorem dec_dig (u : Nat) : ∀ c ∈ decDigits u, isDig c := by
  induction u using Nat.strongRecOn with
  | _ u ih =>
    intro c hc
    rw [decDigits] at hc
    split at hc
    · rename_i h
      have hc := List.mem_singleton.1 hc
      subst hc
      unfold isDig
      rw [dig_of h]
      omega
    · rename_i h
      rcases List.mem_append.1 hc with h1 | h1
      · exact ih (u / 10) (by omega) c h1
      · have h1 := List.mem_singleton.1 h1
        subst h1
        unfold isDig
        rw [dig_of (Nat.mod_lt u (by omega : 10 > 0))]
        omega
theorem dec_len : ∀ (k u : Nat), u < 10 ^ (k + 1) → (decDigits u).length ≤ k + 1
  | 0, u, h => by
    rw [decDigits, dif_pos (by simpa using h)]
    simp
  | k + 1, u, h => by
    rw [decDigits]
    split
    · simp
    · have := dec_len k (u / 10) (by rw [Nat.pow_succ] at h; omega)
      simp
      omega
theorem dec_len7 {u : Nat} (h : u ≤ 1048576) : (decDigits u).length ≤ 7 := dec_len 6 u (by omega)

theorem decFrom_append : ∀ (l : List UInt8) (acc n : Nat) (r : List UInt8), decFrom acc l = some n → decFrom acc (l ++ r) = decFrom n r
  | [], acc, n, r, h => by
    simp [decFrom] at h
    subst h
    rfl
  | c :: l, acc, n, r, h => by
    simp only [decFrom] at h
    simp only [List.cons_append, decFrom]
    cases hd : digitVal c with
    | none => rw [hd] at h; cases h
    | some d =>
      rw [hd] at h
      exact decFrom_append l _ n r h
theorem decFrom_one {k : Nat} (h : k < 10) (acc : Nat) : decFrom acc [UInt8.ofNat (48 + k)] = some (acc * 10 + k) := by
  have e : digitVal (UInt8.ofNat (48 + k)) = some k := by
    unfold digitVal
    rw [dig_of h, if_pos (by omega)]
    congr 1
    omega
  simp only [decFrom, e]
theorem dec_from (u : Nat) : decFrom 0 (decDigits u) = some u := by
  induction u using Nat.strongRecOn with
  | _ u ih =>
    rw [decDigits]
    split
    · rename_i h
      rw [decFrom_one h]
      simp
    · rename_i h
      rw [decFrom_append _ 0 (u / 10) _ (ih (u / 10) (by omega)), decFrom_one (by omega)]
      congr 1
      omega
theorem dec_nat (u : Nat) : decNat (decDigits u) = some u := by
  unfold decNat
  rw [if_neg (by simpa using dec_ne u)]
  exact dec_from u
theorem dec_inj {u v : Nat} (h : decDigits u = decDigits v) : u = v := by
  have h1 := dec_from u
  rw [h, dec_from v] at h1
  exact (Option.some.inj h1).symm

theorem atoi_dec {u : Nat} (h : u ≤ 1048576) : atoiAll (decDigits u) = .ok (u : Int) := by
  rw [atoiAll_short _ (by have := dec_len7 h; omega)]
  cases hd : decDigits u with
  | nil => exact absurd hd (dec_ne u)
  | cons c r =>
    have hc := dec_dig u c (by rw [hd]; simp)
    have n1 : ¬ (c == 45) = true := by
      intro e
      have : c = 45 := by simpa using e
      subst this
      unfold isDig at hc
      exact absurd hc.1 (by decide)
    have n2 : ¬ (c == 43) = true := by
      intro e
      have : c = 43 := by simpa using e
      subst this
      unfold isDig at hc
      exact absurd hc.1 (by decide)
    simp only [atoi]
    rw [if_neg n1, if_neg n2, ← hd, dec_nat]
    rfl

/-- t is the numeral of u, and u is at most most. -/
def IsNum (most : Nat) (t : List UInt8) (u : Nat) : Prop := u ≤ most ∧ t = decDigits u
theorem IsNum.one {most : Nat} {t : List UInt8} {u v : Nat} (h : IsNum most t u) (h' : IsNum most t v) : u = v := dec_inj (h.2.symm.trans h'.2)
theorem IsNum.ne {most u : Nat} (h : IsNum most [] u) : False := dec_ne u h.2.symm
theorem isNum_itoa {most : Nat} {t : List UInt8} {v : Int} (h0 : 0 ≤ v) (h1 : v ≤ (most : Int)) (h2 : itoa v = t) : IsNum most t v.toNat := by
  unfold itoa at h2
  rw [if_neg (by omega)] at h2
  exact ⟨by omega, h2.symm⟩
theorem itoa_nat (u : Nat) : itoa (u : Int) = decDigits u := by
  unfold itoa
  rw [if_neg (by omega), Int.toNat_natCast]
theorem isNum_ok {most : Nat} {t : List UInt8} {u : Nat} (hm : most ≤ 1048576) (h : IsNum most t u) : atoiAll t = .ok (u : Int) ∧ itoa (u : Int) = t := by
  obtain ⟨h1, rfl⟩ := h
  exact ⟨atoi_dec (by omega), itoa_nat u⟩

/-- Parts with points between them. -/
def joinDot : List (List UInt8) → List UInt8
  | [] => []
  | [x] => x
  | x :: y :: r => x ++ 46 :: joinDot (y :: r)
/-- The parts of a text between its points. -/
def split : List UInt8 → List (List UInt8)
  | [] => [[]]
  | c :: r => if c = 46 then [] :: split r else match split r with
    | [] => [[c]]
    | p :: ps => (c :: p) :: ps
theorem split_ne : ∀ l, split l ≠ []
  | [] => by simp [split]
  | c :: r => by
    simp only [split]
    split
    · simp
    · split <;> simp
theorem split_none : ∀ (l : List UInt8), 46 ∉ l → split l = [l]
  | [], _ => rfl
  | c :: r, h => by
    have hc : c ≠ 46 := fun e => h (by simp [e])
    have hr := split_none r (fun e => h (by simp [e]))
    simp only [split, if_neg hc, hr]
theorem split_some : ∀ (a b : List UInt8), 46 ∉ a → split (a ++ 46 :: b) = a :: split b
  | [], b, _ => by simp [split]
  | c :: a, b, h => by
    have hc : c ≠ 46 := fun e => h (by simp [e])
    have ha := split_some a b (fun e => h (by simp [e]))
    simp only [List.cons_append, split, if_neg hc, ha]
theorem split_len : ∀ l : List UInt8, (split l).length ≤ l.length + 1
  | [] => by simp [split]
  | c :: r => by
    have := split_len r
    simp only [split]
    split
    · simp; omega
    · split
      · simp
      · rename_i h
        rw [h] at this
        simp at this ⊢
        omega
theorem join_split : ∀ l : List UInt8, joinDot (split l) = l
  | [] => rfl
  | c :: r => by
    have ih := join_split r
    simp only [split]
    split
    · rename_i h
      subst h
      cases hs : split r with
      | nil => exact absurd hs (split_ne r)
      | cons p ps =>
        rw [hs] at ih
        show [] ++ 46 :: joinDot (p :: ps) = _
        rw [ih]
        rfl
    · cases hs : split r with
      | nil => exact absurd hs (split_ne r)
      | cons p ps =>
        rw [hs] at ih
        cases ps with
        | nil =>
          simp only [joinDot] at ih ⊢
          rw [ih]
        | cons q qs =>
          simp only [joinDot, List.cons_append] at ih ⊢
          rw [ih]
theorem split_join : ∀ ps : List (List UInt8), ps ≠ [] → (∀ p ∈ ps, 46 ∉ p) → split (joinDot ps) = ps
  | [], h, _ => absurd rfl h
  | [x], _, h => split_none x (h x (by simp))
  | x :: y :: r, _, h => by
    simp only [joinDot]
    rw [split_some x _ (h x (by simp)), split_join (y :: r) (by simp) (fun p hp => h p (List.mem_cons_of_mem _ hp))]

/-- The text of a path. -/
def pathText (p : List Nat) : List UInt8 := joinDot (p.map decDigits)
/-- The text of a category. -/
def catText (p : List Nat) (n : Nat) : List UInt8 := pathText p ++ 47 :: decDigits n
def FitsP (p : List Nat) : Prop := p.length ≤ 6 ∧ ∀ u ∈ p, u ≤ 1048576
def Fits (p : List Nat) (n : Nat) : Prop := FitsP p ∧ n ≤ 65535
instance (p : List Nat) : Decidable (FitsP p) := inferInstanceAs (Decidable (_ ∧ _))
instance (p : List Nat) (n : Nat) : Decidable (Fits p n) := inferInstanceAs (Decidable (_ ∧ _))

theorem not_dot {c : UInt8} (h : isDig c) : c ≠ 46 := fun e => by subst e; exact absurd h.1 (by decide)
theorem not_slash {c : UInt8} (h : isDig c) : c ≠ 47 := fun e => by subst e; exact absurd h.1 (by decide)
theorem dec_no_dot (u : Nat) : 46 ∉ decDigits u := fun h => not_dot (dec_dig u _ h) rfl
theorem dec_no_slash (u : Nat) : 47 ∉ decDigits u := fun h => not_slash (dec_dig u _ h) rfl
theorem path_no_slash : ∀ p : List Nat, 47 ∉ pathText p
  | [] => by simp [pathText, joinDot]
  | [x] => dec_no_slash x
  | x :: y :: r => by
    have h := path_no_slash (y :: r)
    intro hm
    have hm' : (47 : UInt8) ∈ decDigits x ++ 46 :: pathText (y :: r) := hm
    rcases List.mem_append.1 hm' with h1 | h1
    · exact dec_no_slash x h1
    · rcases List.mem_cons.1 h1 with h2 | h2
      · exact absurd h2 (by decide)
      · exact h h2
theorem split_path {p : List Nat} (h : p ≠ []) : split (pathText p) = p.map decDigits :=
  split_join _ (by simpa using h) (fun q hq => by
    simp only [List.mem_map] at hq
    obtain ⟨u, _, rfl⟩ := hq
    exact dec_no_dot u)
theorem map_dec_inj : ∀ {p q : List Nat}, p.map decDigits = q.map decDigits → p = q
  | [], [], _ => rfl
  | [], _ :: _, h => by simp at h
  | _ :: _, [], h => by simp at h
  | x :: p, y :: q, h => by
    simp only [List.map_cons, List.cons.injEq] at h
    rw [dec_inj h.1, map_dec_inj h.2]
theorem path_ne {x : Nat} {p : List Nat} : pathText (x :: p) ≠ [] := by
  cases p with
  | nil => exact dec_ne x
  | cons y r =>
    intro h
    have h' : decDigits x ++ 46 :: pathText (y :: r) = [] := h
    simp at h'
theorem path_inj {p q : List Nat} (h : pathText p = pathText q) : p = q := by
  cases p with
  | nil =>
    cases q with
    | nil => rfl
    | cons y r => exact absurd h.symm path_ne
  | cons x r =>
    cases q with
    | nil => exact absurd h path_ne
    | cons y s =>
      have := split_path (p := x :: r) (by simp)
      rw [h, split_path (by simp)] at this
      exact (map_dec_inj this).symm

/-- Where the first c is. -/
theorem index_one : ∀ (a b : List UInt8) (c : UInt8), c ∉ a → index (a ++ c :: b) [c] = a.length
  | [], b, c, _ => by simp [index]
  | x :: a, b, c, h => by
    have hx : ¬ c = x := fun e => h (by simp [e])
    have ih := index_one a b c (fun e => h (by simp [e]))
    simp only [List.cons_append, index]
    rw [if_neg (by simpa using hx), ih, if_neg (by simp)]
    simp
theorem index_no : ∀ (a : List UInt8) (c : UInt8), c ∉ a → index a [c] = -1
  | [], c, _ => by simp [index]
  | x :: a, c, h => by
    have hx : ¬ c = x := fun e => h (by simp [e])
    have ih := index_no a c (fun e => h (by simp [e]))
    simp only [index]
    rw [if_neg (by simpa using hx), ih]
    simp
theorem part_at : ∀ (l : List UInt8) (c : UInt8), c ∈ l → ∃ a b, l = a ++ c :: b ∧ c ∉ a
  | [], c, h => by simp at h
  | x :: l, c, h => by
    by_cases e : c = x
    · subst e
      exact ⟨[], l, rfl, by simp⟩
    · obtain ⟨a, b, rfl, hn⟩ := part_at l c (by simpa [e] using h)
      exact ⟨x :: a, b, rfl, by simp [e, hn]⟩
theorem cut_one {a b : List UInt8} {c : UInt8} (h : c ∉ a) : cut (a ++ c :: b) [c] = (a, b, true) := by
  unfold cut
  rw [index_one a b c h, if_pos (by omega), Int.toNat_natCast]
  simp
theorem cut_no {a : List UInt8} {c : UInt8} (h : c ∉ a) : cut a [c] = (a, [], false) := by
  unfold cut
  rw [index_no a c h, if_neg (by omega)]

/-- What the reference gathers from a text: the path, the last number, how many digits of it. -/
def scan : List UInt8 → List Nat → Nat → Nat → Option (List Nat × Nat)
  | [], p, n, _ => some (p, n)
  | c :: r, p, n, d =>
    if 48 ≤ c.toNat ∧ c.toNat ≤ 57 then (if 8 < d + 1 then none else scan r p (10 * n + (c.toNat - 48)) (d + 1))
    else if c = 46 ∨ c = 47 then scan r (if 0 < d then p ++ [n] else p) 0 0
    else scan r p n d
theorem scan_digs : ∀ (l r : List UInt8) (p : List Nat) (n m d : Nat), decFrom n l = some m → d + l.length ≤ 8 → scan (l ++ r) p n d = scan r p m (d + l.length)
  | [], r, p, n, m, d, h, _ => by
    simp [decFrom] at h
    subst h
    rfl
  | c :: l, r, p, n, m, d, h, hd => by
    simp only [decFrom] at h
    cases hc : digitVal c with
    | none => rw [hc] at h; cases h
    | some x =>
      rw [hc] at h
      obtain ⟨h1, h2, rfl⟩ := digitVal_eq hc
      simp only [List.length_cons] at hd
      simp only [List.cons_append, scan]
      rw [if_pos ⟨h1, h2⟩, if_neg (by omega), Nat.mul_comm 10 n, scan_digs l r p _ m (d + 1) h (by omega)]
      simp only [List.length_cons]
      congr 1
      omega
theorem scan_dec {u : Nat} (h : u ≤ 1048576) (r : List UInt8) (p : List Nat) : scan (decDigits u ++ r) p 0 0 = scan r p u (decDigits u).length := by
  have := scan_digs (decDigits u) r p 0 u 0 (dec_from u) (by have := dec_len7 h; omega)
  rwa [Nat.zero_add] at this
theorem scan_sep {c : UInt8} (hc : c = 46 ∨ c = 47) (r : List UInt8) (p : List Nat) (n d : Nat) (hd : 0 < d) : scan (c :: r) p n d = scan r (p ++ [n]) 0 0 := by
  simp only [scan]
  rw [if_neg (by rcases hc with rfl | rfl <;> decide), if_pos hc, if_pos hd]
theorem dec_pos (u : Nat) : 0 < (decDigits u).length := List.length_pos_iff.2 (dec_ne u)
theorem scan_path : ∀ (p q : List Nat) (r : List UInt8), p ≠ [] → (∀ u ∈ p, u ≤ 1048576) → scan (pathText p ++ 47 :: r) q 0 0 = scan r (q ++ p) 0 0
  | [], _, _, h, _ => absurd rfl h
  | [x], q, r, _, h => by
    show scan (decDigits x ++ 47 :: r) q 0 0 = _
    rw [scan_dec (h x (by simp)), scan_sep (.inr rfl) _ _ _ _ (dec_pos x)]
  | x :: y :: s, q, r, _, h => by
    show scan ((decDigits x ++ 46 :: pathText (y :: s)) ++ 47 :: r) q 0 0 = _
    rw [List.append_assoc, scan_dec (h x (by simp)), List.cons_append, scan_sep (.inl rfl) _ _ _ _ (dec_pos x), scan_path (y :: s) (q ++ [x]) r (by simp) (fun u hu => h u (List.mem_cons_of_mem _ hu))]
    simp
theorem scan_cat {p : List Nat} {n : Nat} (h : Fits p n) : scan (catText p n) [] 0 0 = some (p, n) := by
  have hn : scan (decDigits n) p 0 0 = some (p, n) := by
    have := scan_dec (u := n) (by have := h.2; omega) [] p
    rw [List.append_nil] at this
    rw [this]
    rfl
  unfold catText
  cases p with
  | nil =>
    show scan (47 :: decDigits n) [] 0 0 = _
    simp only [scan]
    rw [if_neg (by decide), if_pos (.inr trivial)]
    exact hn
  | cons x r =>
    rw [scan_path (x :: r) [] _ (by simp) h.1.2]
    exact hn

/-- The category that a text is. -/
def catOf (s : List UInt8) : Option (List Nat × Nat) :=
  match scan s [] 0 0 with
  | some x => if Fits x.1 x.2 ∧ catText x.1 x.2 = s then some x else none
  | none => none
theorem catOf_iff {s : List UInt8} {x : List Nat × Nat} : catOf s = some x ↔ Fits x.1 x.2 ∧ s = catText x.1 x.2 := by
  constructor
  · intro h
    unfold catOf at h
    split at h
    · split at h
      · rename_i h1
        cases h
        exact ⟨h1.1, h1.2.symm⟩
      · cases h
    · cases h
  · rintro ⟨h, rfl⟩
    unfold catOf
    rw [scan_cat h]
    exact if_pos ⟨h, rfl⟩
theorem catOf_none {s : List UInt8} (h : ∀ p n, Fits p n → s ≠ catText p n) : catOf s = none := by
  cases hc : catOf s with
  | none => rfl
  | some x =>
    have := catOf_iff.1 hc
    exact absurd this.2 (h _ _ this.1)
theorem catOf_inj {s t : List UInt8} {x : List Nat × Nat} (h : catOf s = some x) (h' : catOf t = some x) : s = t := (catOf_iff.1 h).2.trans (catOf_iff.1 h').2.symm
end Go.Proofs.YtoegmajkfaokdaaDoor
