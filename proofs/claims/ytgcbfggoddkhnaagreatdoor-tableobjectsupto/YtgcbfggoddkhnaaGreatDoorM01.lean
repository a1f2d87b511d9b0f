/- Lemmas for the law: It, A, Shelf, C, Cu, B, D. -/
import Derived.Shelf.Spec.SlicesGrow
import Derived.Test.YtgcbfggoddkhnaaGreatDoorProg
import Derived.Lib.ItoaNum
import Derived.Lib.AtoiTie
import Derived.Lib.IndexMore
import Derived.Lib.IndexLaws
import Derived.Lib.Bytealg
import Derived.Shelf.Small.Strs
import Derived.Shelf.Small.Wraps
import Derived.Shelf.LaysM
import Derived.Shelf.Strconv.Itoa3
import Derived.Shelf.LaysC
import Derived.Shelf.Strconv.AtoiAll
import Derived.Shelf.Strings.Search3
import Derived.Shelf.Strings.Cut
import Derived.Shelf.Slices.CompactS
import Derived.WalkKit
import Derived.WalkSmall
import Derived.LaidEql
import Derived.Deep.LoopGhost
import Derived.Lib.Hide
import Derived.RegionCalls
import Derived.IntWalk
import Derived.Deep.RegionHeld3
import Derived.StillTailTactics
import Derived.Deep.QuietTactic
import Derived.BigQuiet
import Derived.Lib.CutLaws
import Derived.Lib.IndexBytes
import Derived.RangeFuncNested
import Derived.RangeFuncBound
import Derived.RangeFuncLeaves
import Derived.RangeFuncCalls
import Derived.Shelf.Abstract
import Derived.Shelf.RegionOpen
import Derived.OwnWalkIn
import Derived.TacticsInMore
import Derived.LoopNIn
import Derived.LoopIn
namespace Go.Proofs
open Go.Shelf
def Tryz.growA_ren : Go.Shelf.Ren := ⟨fun | 4 => 182 | n => n, fun | 22 => 23 | 25 => 42 | 3 => 3 | 4 => 4 | 9 => 9 | 20 => 20 | 0 => 0 | n => n, fun | n => n⟩
theorem Tryz.growA : Go.Proofs.Lays8.n4 Tryz.prog Tryz.growA_ren := {
 mixed := by kernel_rfl
 f4 := ⟨Tryz.f182.name, by decide, Tryz.func182.trans (congrArg some (by kernel_rfl))⟩
 t0 := Tryz.underlying0
 a0 := Tryz.isAgg0
 z0 := Tryz.sizeOf0
 v0 := Tryz.zeroValue0
 t3 := Tryz.underlying3
 a3 := Tryz.isAgg3
 z3 := Tryz.sizeOf3
 v3 := Tryz.zeroValue3
 t4 := Tryz.underlying4
 a4 := Tryz.isAgg4
 z4 := Tryz.sizeOf4
 v4 := Tryz.zeroValue4
 t9 := Tryz.underlying9
 a9 := Tryz.isAgg9
 z9 := Tryz.sizeOf9
 v9 := Tryz.zeroValue9
 t20 := Tryz.underlying20
 a20 := Tryz.isAgg20
 z20 := Tryz.sizeOf20
 v20 := Tryz.zeroValue20
 t22 := Tryz.underlying23
 a22 := Tryz.isAgg23
 z22 := Tryz.sizeOf23
 v22 := Tryz.zeroValue23 }
end Go.Proofs
namespace Go.Proofs.YtgcbfggoddkhnaaGreatDoor
open Go.Lib
def isDig (c : UInt8) : Prop := 48 ≤ c.toNat ∧ c.toNat ≤ 57
theorem dig_of {k : Nat} (h : k < 10) : (UInt8.ofNat (48 + k)).toNat = 48 + k := by
 rw [UInt8.toNat_ofNat']
 omega
theorem dec_ne (u : Nat) : decDigits u ≠ [] := by
 rw [decDigits]
 split <;> simp
theorem dec_dig (u : Nat) : ∀ c ∈ decDigits u, isDig c := by
 induction u using Nat.strongRecOn with
 | _ u ih =>
  intro c hc
  rw [decDigits] at hc
  split at hc
  · rename_i h
    have hc := List.mem_singleton.1 hc
    subst hc
    unfold isDig
    rw [dig_of h]
    omega
  · rename_i h
    rcases List.mem_append.1 hc with h1 | h1
    · exact ih (u / 10) (by omega) c h1
    · have h1 := List.mem_singleton.1 h1
      subst h1
      unfold isDig
      rw [dig_of (Nat.mod_lt u (by omega : 10 > 0))]
      omega
theorem dec_len : ∀ (k u : Nat), u < 10 ^ (k + 1) → (decDigits u).length ≤ k + 1
 | 0, u, h => by
  rw [decDigits, dif_pos (by simpa using h)]
  simp
 | k + 1, u, h => by
  rw [decDigits]
  split
  · simp
  · have := dec_len k (u / 10) (by rw [Nat.pow_succ] at h; omega)
    simp
    omega
theorem dec_len7 {u : Nat} (h : u ≤ 1048576) : (decDigits u).length ≤ 7 := dec_len 6 u (by omega)
theorem decFrom_append : ∀ (l : List UInt8) (acc n : Nat) (r : List UInt8), decFrom acc l = some n → decFrom acc (l ++ r) = decFrom n r
 | [], acc, n, r, h => by
  simp [decFrom] at h
  subst h
  rfl
 | c :: l, acc, n, r, h => by
  simp only [decFrom] at h
  simp only [List.cons_append, decFrom]
  cases hd : digitVal c with
  | none => rw [hd] at h; cases h
  | some d =>
   rw [hd] at h
   exact decFrom_append l _ n r h
theorem decFrom_one {k : Nat} (h : k < 10) (acc : Nat) : decFrom acc [UInt8.ofNat (48 + k)] = some (acc * 10 + k) := by
 have e : digitVal (UInt8.ofNat (48 + k)) = some k := by
  unfold digitVal
  rw [dig_of h, if_pos (by omega)]
  congr 1
  omega
 simp only [decFrom, e]
theorem dec_from (u : Nat) : decFrom 0 (decDigits u) = some u := by
 induction u using Nat.strongRecOn with
 | _ u ih =>
  rw [decDigits]
  split
  · rename_i h
    rw [decFrom_one h]
    simp
  · rename_i h
    rw [decFrom_append _ 0 (u / 10) _ (ih (u / 10) (by omega)), decFrom_one (by omega)]
    congr 1
    omega
theorem dec_nat (u : Nat) : decNat (decDigits u) = some u := by
 unfold decNat
 rw [if_neg (by simpa using dec_ne u)]
 exact dec_from u
theorem dec_inj {u v : Nat} (h : decDigits u = decDigits v) : u = v := by
 have h1 := dec_from u
 rw [h, dec_from v] at h1
 exact (Option.some.inj h1).symm
theorem atoi_dec {u : Nat} (h : u ≤ 1048576) : atoiAll (decDigits u) = .ok (u : Int) := by
 rw [atoiAll_short _ (by have := dec_len7 h; omega)]
 cases hd : decDigits u with
 | nil => exact absurd hd (dec_ne u)
 | cons c r =>
  have hc := dec_dig u c (by rw [hd]; simp)
  have n1 : ¬ (c == 45) = true := by
   intro e
   have : c = 45 := by simpa using e
   subst this
   unfold isDig at hc
   exact absurd hc.1 (by decide)
  have n2 : ¬ (c == 43) = true := by
   intro e
   have : c = 43 := by simpa using e
   subst this
   unfold isDig at hc
   exact absurd hc.1 (by decide)
  simp only [atoi]
  rw [if_neg n1, if_neg n2, ← hd, dec_nat]
  rfl
def IsNum (most : Nat) (t : List UInt8) (u : Nat) : Prop := u ≤ most ∧ t = decDigits u
theorem IsNum.one {most : Nat} {t : List UInt8} {u v : Nat} (h : IsNum most t u) (h' : IsNum most t v) : u = v := dec_inj (h.2.symm.trans h'.2)
theorem IsNum.ne {most u : Nat} (h : IsNum most [] u) : False := dec_ne u h.2.symm
theorem isNum_itoa {most : Nat} {t : List UInt8} {v : Int} (h0 : 0 ≤ v) (h1 : v ≤ (most : Int)) (h2 : itoa v = t) : IsNum most t v.toNat := by
 unfold itoa at h2
 rw [if_neg (by omega)] at h2
 exact ⟨by omega, h2.symm⟩
theorem itoa_nat (u : Nat) : itoa (u : Int) = decDigits u := by
 unfold itoa
 rw [if_neg (by omega), Int.toNat_natCast]
theorem isNum_ok {most : Nat} {t : List UInt8} {u : Nat} (hm : most ≤ 1048576) (h : IsNum most t u) : atoiAll t = .ok (u : Int) ∧ itoa (u : Int) = t := by
 obtain ⟨h1, rfl⟩ := h
 exact ⟨atoi_dec (by omega), itoa_nat u⟩
def joinDot : List (List UInt8) → List UInt8
 | [] => []
 | [x] => x
 | x :: y :: r => x ++ 46 :: joinDot (y :: r)
def split : List UInt8 → List (List UInt8)
 | [] => [[]]
 | c :: r => if c = 46 then [] :: split r else match split r with
  | [] => [[c]]
  | p :: ps => (c :: p) :: ps
theorem split_ne : ∀ l, split l ≠ []
 | [] => by simp [split]
 | c :: r => by
  simp only [split]
  split
  · simp
  · split <;> simp
theorem split_none : ∀ (l : List UInt8), 46 ∉ l → split l = [l]
 | [], _ => rfl
 | c :: r, h => by
  have hc : c ≠ 46 := fun e => h (by simp [e])
  have hr := split_none r (fun e => h (by simp [e]))
  simp only [split, if_neg hc, hr]
theorem split_some : ∀ (a b : List UInt8), 46 ∉ a → split (a ++ 46 :: b) = a :: split b
 | [], b, _ => by simp [split]
 | c :: a, b, h => by
  have hc : c ≠ 46 := fun e => h (by simp [e])
  have ha := split_some a b (fun e => h (by simp [e]))
  simp only [List.cons_append, split, if_neg hc, ha]
theorem join_split : ∀ l : List UInt8, joinDot (split l) = l
 | [] => rfl
 | c :: r => by
  have ih := join_split r
  simp only [split]
  split
  · rename_i h
    subst h
    cases hs : split r with
    | nil => exact absurd hs (split_ne r)
    | cons p ps =>
     rw [hs] at ih
     show [] ++ 46 :: joinDot (p :: ps) = _
     rw [ih]
     rfl
  · cases hs : split r with
    | nil => exact absurd hs (split_ne r)
    | cons p ps =>
     rw [hs] at ih
     cases ps with
     | nil =>
      simp only [joinDot] at ih ⊢
      rw [ih]
     | cons q qs =>
      simp only [joinDot, List.cons_append] at ih ⊢
      rw [ih]
theorem split_join : ∀ ps : List (List UInt8), ps ≠ [] → (∀ p ∈ ps, 46 ∉ p) → split (joinDot ps) = ps
 | [], h, _ => absurd rfl h
 | [x], _, h => split_none x (h x (by simp))
 | x :: y :: r, _, h => by
  simp only [joinDot]
  rw [split_some x _ (h x (by simp)), split_join (y :: r) (by simp) (fun p hp => h p (List.mem_cons_of_mem _ hp))]
def pathText (p : List Nat) : List UInt8 := joinDot (p.map decDigits)
def catText (p : List Nat) (n : Nat) : List UInt8 := pathText p ++ 47 :: decDigits n
def FitsP (p : List Nat) : Prop := p.length ≤ 6 ∧ ∀ u ∈ p, u ≤ 1048576
def Fits (p : List Nat) (n : Nat) : Prop := FitsP p ∧ n ≤ 65535
instance (p : List Nat) : Decidable (FitsP p) := inferInstanceAs (Decidable (_ ∧ _))
instance (p : List Nat) (n : Nat) : Decidable (Fits p n) := inferInstanceAs (Decidable (_ ∧ _))
theorem not_dot {c : UInt8} (h : isDig c) : c ≠ 46 := fun e => by subst e; exact absurd h.1 (by decide)
theorem not_slash {c : UInt8} (h : isDig c) : c ≠ 47 := fun e => by subst e; exact absurd h.1 (by decide)
theorem dec_no_dot (u : Nat) : 46 ∉ decDigits u := fun h => not_dot (dec_dig u _ h) rfl
theorem dec_no_slash (u : Nat) : 47 ∉ decDigits u := fun h => not_slash (dec_dig u _ h) rfl
theorem path_no_slash : ∀ p : List Nat, 47 ∉ pathText p
 | [] => by simp [pathText, joinDot]
 | [x] => dec_no_slash x
 | x :: y :: r => by
  have h := path_no_slash (y :: r)
  intro hm
  have hm' : (47 : UInt8) ∈ decDigits x ++ 46 :: pathText (y :: r) := hm
  rcases List.mem_append.1 hm' with h1 | h1
  · exact dec_no_slash x h1
  · rcases List.mem_cons.1 h1 with h2 | h2
    · exact absurd h2 (by decide)
    · exact h h2
theorem split_path {p : List Nat} (h : p ≠ []) : split (pathText p) = p.map decDigits :=
 split_join _ (by simpa using h) (fun q hq => by
  simp only [List.mem_map] at hq
  obtain ⟨u, _, rfl⟩ := hq
  exact dec_no_dot u)
theorem map_dec_inj : ∀ {p q : List Nat}, p.map decDigits = q.map decDigits → p = q
 | [], [], _ => rfl
 | [], _ :: _, h => by simp at h
 | _ :: _, [], h => by simp at h
 | x :: p, y :: q, h => by
  simp only [List.map_cons, List.cons.injEq] at h
  rw [dec_inj h.1, map_dec_inj h.2]
theorem path_ne {x : Nat} {p : List Nat} : pathText (x :: p) ≠ [] := by
 cases p with
 | nil => exact dec_ne x
 | cons y r =>
  intro h
  have h' : decDigits x ++ 46 :: pathText (y :: r) = [] := h
  simp at h'
theorem path_inj {p q : List Nat} (h : pathText p = pathText q) : p = q := by
 cases p with
 | nil =>
  cases q with
  | nil => rfl
  | cons y r => exact absurd h.symm path_ne
 | cons x r =>
  cases q with
  | nil => exact absurd h path_ne
  | cons y s =>
   have := split_path (p := x :: r) (by simp)
   rw [h, split_path (by simp)] at this
   exact (map_dec_inj this).symm
theorem index_one : ∀ (a b : List UInt8) (c : UInt8), c ∉ a → index (a ++ c :: b) [c] = a.length
 | [], b, c, _ => by simp [index]
 | x :: a, b, c, h => by
  have hx : ¬ c = x := fun e => h (by simp [e])
  have ih := index_one a b c (fun e => h (by simp [e]))
  simp only [List.cons_append, index]
  rw [if_neg (by simpa using hx), ih, if_neg (by simp)]
  simp
theorem index_no : ∀ (a : List UInt8) (c : UInt8), c ∉ a → index a [c] = -1
 | [], c, _ => by simp [index]
 | x :: a, c, h => by
  have hx : ¬ c = x := fun e => h (by simp [e])
  have ih := index_no a c (fun e => h (by simp [e]))
  simp only [index]
  rw [if_neg (by simpa using hx), ih]
  simp
theorem part_at : ∀ (l : List UInt8) (c : UInt8), c ∈ l → ∃ a b, l = a ++ c :: b ∧ c ∉ a
 | [], c, h => by simp at h
 | x :: l, c, h => by
  by_cases e : c = x
  · subst e
    exact ⟨[], l, rfl, by simp⟩
  · obtain ⟨a, b, rfl, hn⟩ := part_at l c (by simpa [e] using h)
    exact ⟨x :: a, b, rfl, by simp [e, hn]⟩
theorem cut_one {a b : List UInt8} {c : UInt8} (h : c ∉ a) : cut (a ++ c :: b) [c] = (a, b, true) := by
 unfold cut
 rw [index_one a b c h, if_pos (by omega), Int.toNat_natCast]
 simp
theorem cut_no {a : List UInt8} {c : UInt8} (h : c ∉ a) : cut a [c] = (a, [], false) := by
 unfold cut
 rw [index_no a c h, if_neg (by omega)]
def scan : List UInt8 → List Nat → Nat → Nat → Option (List Nat × Nat)
 | [], p, n, _ => some (p, n)
 | c :: r, p, n, d =>
  if 48 ≤ c.toNat ∧ c.toNat ≤ 57 then (if 8 < d + 1 then none else scan r p (10 * n + (c.toNat - 48)) (d + 1))
  else if c = 46 ∨ c = 47 then scan r (if 0 < d then p ++ [n] else p) 0 0
  else scan r p n d
theorem scan_digs : ∀ (l r : List UInt8) (p : List Nat) (n m d : Nat), decFrom n l = some m → d + l.length ≤ 8 → scan (l ++ r) p n d = scan r p m (d + l.length)
 | [], r, p, n, m, d, h, _ => by
  simp [decFrom] at h
  subst h
  rfl
 | c :: l, r, p, n, m, d, h, hd => by
  simp only [decFrom] at h
  cases hc : digitVal c with
  | none => rw [hc] at h; cases h
  | some x =>
   rw [hc] at h
   obtain ⟨h1, h2, rfl⟩ := digitVal_eq hc
   simp only [List.length_cons] at hd
   simp only [List.cons_append, scan]
   rw [if_pos ⟨h1, h2⟩, if_neg (by omega), Nat.mul_comm 10 n, scan_digs l r p _ m (d + 1) h (by omega)]
   simp only [List.length_cons]
   congr 1
   omega
theorem scan_dec {u : Nat} (h : u ≤ 1048576) (r : List UInt8) (p : List Nat) : scan (decDigits u ++ r) p 0 0 = scan r p u (decDigits u).length := by
 have := scan_digs (decDigits u) r p 0 u 0 (dec_from u) (by have := dec_len7 h; omega)
 rwa [Nat.zero_add] at this
theorem scan_sep {c : UInt8} (hc : c = 46 ∨ c = 47) (r : List UInt8) (p : List Nat) (n d : Nat) (hd : 0 < d) : scan (c :: r) p n d = scan r (p ++ [n]) 0 0 := by
 simp only [scan]
 rw [if_neg (by rcases hc with rfl | rfl <;> decide), if_pos hc, if_pos hd]
theorem dec_pos (u : Nat) : 0 < (decDigits u).length := List.length_pos_iff.2 (dec_ne u)
theorem scan_path : ∀ (p q : List Nat) (r : List UInt8), p ≠ [] → (∀ u ∈ p, u ≤ 1048576) → scan (pathText p ++ 47 :: r) q 0 0 = scan r (q ++ p) 0 0
 | [], _, _, h, _ => absurd rfl h
 | [x], q, r, _, h => by
  show scan (decDigits x ++ 47 :: r) q 0 0 = _
  rw [scan_dec (h x (by simp)), scan_sep (.inr rfl) _ _ _ _ (dec_pos x)]
 | x :: y :: s, q, r, _, h => by
  show scan ((decDigits x ++ 46 :: pathText (y :: s)) ++ 47 :: r) q 0 0 = _
  rw [List.append_assoc, scan_dec (h x (by simp)), List.cons_append, scan_sep (.inl rfl) _ _ _ _ (dec_pos x), scan_path (y :: s) (q ++ [x]) r (by simp) (fun u hu => h u (List.mem_cons_of_mem _ hu))]
  simp
theorem scan_cat {p : List Nat} {n : Nat} (h : Fits p n) : scan (catText p n) [] 0 0 = some (p, n) := by
 have hn : scan (decDigits n) p 0 0 = some (p, n) := by
  have := scan_dec (u := n) (by have := h.2; omega) [] p
  rw [List.append_nil] at this
  rw [this]
  rfl
 unfold catText
 cases p with
 | nil =>
  show scan (47 :: decDigits n) [] 0 0 = _
  simp only [scan]
  rw [if_neg (by decide), if_pos (.inr trivial)]
  exact hn
 | cons x r =>
  rw [scan_path (x :: r) [] _ (by simp) h.1.2]
  exact hn
def catOf (s : List UInt8) : Option (List Nat × Nat) :=
 match scan s [] 0 0 with
 | some x => if Fits x.1 x.2 ∧ catText x.1 x.2 = s then some x else none
 | none => none
theorem catOf_iff {s : List UInt8} {x : List Nat × Nat} : catOf s = some x ↔ Fits x.1 x.2 ∧ s = catText x.1 x.2 := by
 constructor
 · intro h
   unfold catOf at h
   split at h
   · split at h
     · rename_i h1
       cases h
       exact ⟨h1.1, h1.2.symm⟩
     · cases h
   · cases h
 · rintro ⟨h, rfl⟩
   unfold catOf
   rw [scan_cat h]
   exact if_pos ⟨h, rfl⟩
theorem catOf_none {s : List UInt8} (h : ∀ p n, Fits p n → s ≠ catText p n) : catOf s = none := by
 cases hc : catOf s with
 | none => rfl
 | some x =>
  have := catOf_iff.1 hc
  exact absurd this.2 (h _ _ this.1)
theorem catOf_inj {s t : List UInt8} {x : List Nat × Nat} (h : catOf s = some x) (h' : catOf t = some x) : s = t := (catOf_iff.1 h).2.trans (catOf_iff.1 h').2.symm
end Go.Proofs.YtgcbfggoddkhnaaGreatDoor
namespace Go.Proofs
open Go.Shelf
def Tryz.lays106_ren : Go.Shelf.Ren := ⟨fun | 106 => 144 | 213 => 177 | 265 => 198 | n => n, fun | 9 => 9 | 3 => 3 | n => n, fun | n => n⟩
theorem Tryz.lays106 : Go.Proofs.Lays.n106 Tryz.prog Tryz.lays106_ren := {
 mixed := by kernel_rfl
 f106 := Tryz.func144.trans (congrArg some (by kernel_rfl))
 f213 := Tryz.func177.trans (congrArg some (by kernel_rfl))
 f265 := Tryz.func198.trans (congrArg some (by kernel_rfl))
 t3 := Tryz.underlying3
 a3 := Tryz.isAgg3
 z3 := Tryz.sizeOf3
 v3 := Tryz.zeroValue3
 t9 := Tryz.underlying9
 a9 := Tryz.isAgg9
 z9 := Tryz.sizeOf9
 v9 := Tryz.zeroValue9 }
open Go.RowKit in
theorem Tryz.strings_Compare (a b : ByteArray) (w : World) :
 Calls Tryz.prog 144 #[.string a, .string b] w fun e w' => e = .returned (.int .i64 (Lib.compareBytes a.data.toList b.data.toList)) ∧ w' = w := Any.strings_Compare Tryz.lays106 a b w
def Tryz.lays122_ren : Go.Shelf.Ren := ⟨fun | 122 => 143 | 215 => 176 | n => n, fun | 3 => 3 | 4 => 4 | n => n, fun | n => n⟩
theorem Tryz.lays122 : Go.Proofs.Lays.n122 Tryz.prog Tryz.lays122_ren := {
 mixed := by kernel_rfl
 f122 := Tryz.func143.trans (congrArg some (by kernel_rfl))
 f215 := Tryz.func176.trans (congrArg some (by kernel_rfl))
 t3 := Tryz.underlying3
 a3 := Tryz.isAgg3
 z3 := Tryz.sizeOf3
 v3 := Tryz.zeroValue3
 t4 := Tryz.underlying4
 a4 := Tryz.isAgg4
 z4 := Tryz.sizeOf4
 v4 := Tryz.zeroValue4 }
open Go.RowKit in
theorem Tryz.cmp_Compare_int (x y : Int) (w : World) :
 Calls Tryz.prog 143 #[.int .i64 x, .int .i64 y] w fun e w' => e = .returned (.int .i64 (Lib.compareInt x y)) ∧ w' = w := Any.cmp_Compare_int Tryz.lays122 x y w
def Tryz.laysM171_ren : Go.Shelf.Ren := ⟨fun | 171 => 110 | 243 => 150 | 246 => 179 | 283 => 207 | 284 => 208 | 285 => 209 | 286 => 210 | 129 => 170 | 317 => 222 | 318 => 223 | 319 => 224 | 320 => 225 | 337 => 233 | 338 => 234 | n => n, fun | 3 => 3 | 9 => 9 | 2 => 2 | 4 => 4 | 171 => 244 | 0 => 0 | 53 => 212 | 37 => 25 | 5 => 5 | 173 => 246 | 212 => 262 | 51 => 210 | 20 => 20 | 213 => 263 | 46 => 78 | 232 => 276 | 233 => 277 | n => n, fun | 17 => 3 | 18 => 6 | 19 => 7 | n => n⟩
theorem Tryz.laysM171 : Go.Proofs.LaysM.n171 Tryz.prog Tryz.laysM171_ren := {
 mixed := by kernel_rfl
 f129 := Tryz.func170.trans (congrArg some (by kernel_rfl))
 f171 := Tryz.func110.trans (congrArg some (by kernel_rfl))
 f243 := Tryz.func150.trans (congrArg some (by kernel_rfl))
 f246 := Tryz.func179.trans (congrArg some (by kernel_rfl))
 f283 := Tryz.func207.trans (congrArg some (by kernel_rfl))
 f284 := Tryz.func208.trans (congrArg some (by kernel_rfl))
 f285 := Tryz.func209.trans (congrArg some (by kernel_rfl))
 f286 := Tryz.func210.trans (congrArg some (by kernel_rfl))
 f317 := Tryz.func222.trans (congrArg some (by kernel_rfl))
 f318 := Tryz.func223.trans (congrArg some (by kernel_rfl))
 f319 := Tryz.func224.trans (congrArg some (by kernel_rfl))
 f320 := Tryz.func225.trans (congrArg some (by kernel_rfl))
 f337 := Tryz.func233.trans (congrArg some (by kernel_rfl))
 f338 := Tryz.func234.trans (congrArg some (by kernel_rfl))
 t0 := Tryz.underlying0
 a0 := Tryz.isAgg0
 z0 := Tryz.sizeOf0
 v0 := Tryz.zeroValue0
 t2 := Tryz.underlying2
 a2 := Tryz.isAgg2
 z2 := Tryz.sizeOf2
 v2 := Tryz.zeroValue2
 t3 := Tryz.underlying3
 a3 := Tryz.isAgg3
 z3 := Tryz.sizeOf3
 v3 := Tryz.zeroValue3
 t4 := Tryz.underlying4
 a4 := Tryz.isAgg4
 z4 := Tryz.sizeOf4
 v4 := Tryz.zeroValue4
 t5 := Tryz.underlying5
 a5 := Tryz.isAgg5
 z5 := Tryz.sizeOf5
 v5 := Tryz.zeroValue5
 t9 := Tryz.underlying9
 a9 := Tryz.isAgg9
 z9 := Tryz.sizeOf9
 v9 := Tryz.zeroValue9
 t20 := Tryz.underlying20
 a20 := Tryz.isAgg20
 z20 := Tryz.sizeOf20
 v20 := Tryz.zeroValue20
 t37 := Tryz.underlying25
 a37 := Tryz.isAgg25
 z37 := Tryz.sizeOf25
 v37 := Tryz.zeroValue25
 t46 := Tryz.underlying78
 a46 := Tryz.isAgg78
 z46 := Tryz.sizeOf78
 v46 := Tryz.zeroValue78
 t51 := Tryz.underlying210
 a51 := Tryz.isAgg210
 z51 := Tryz.sizeOf210
 v51 := Tryz.zeroValue210
 t53 := Tryz.underlying212
 a53 := Tryz.isAgg212
 z53 := Tryz.sizeOf212
 v53 := Tryz.zeroValue212
 t171 := Tryz.underlying244
 a171 := Tryz.isAgg244
 z171 := Tryz.sizeOf244
 v171 := Tryz.zeroValue244
 t173 := Tryz.underlying246
 a173 := Tryz.isAgg246
 z173 := Tryz.sizeOf246
 v173 := Tryz.zeroValue246
 t212 := Tryz.underlying262
 a212 := Tryz.isAgg262
 z212 := Tryz.sizeOf262
 v212 := Tryz.zeroValue262
 t213 := Tryz.underlying263
 a213 := Tryz.isAgg263
 z213 := Tryz.sizeOf263
 t232 := Tryz.underlying276
 a232 := Tryz.isAgg276
 z232 := Tryz.sizeOf276
 v232 := Tryz.zeroValue276
 t233 := Tryz.underlying277
 a233 := Tryz.isAgg277
 z233 := Tryz.sizeOf277
 v233 := Tryz.zeroValue277
 g17 := by kernel_rfl
 g18 := by kernel_rfl
 g19 := by kernel_rfl
 i0 := by kernel_rfl
 i2 := by kernel_rfl
 i3 := by kernel_rfl
 i4 := by kernel_rfl
 i5 := by kernel_rfl
 i9 := by kernel_rfl
 i20 := by kernel_rfl
 i37 := by kernel_rfl
 i46 := by kernel_rfl
 i51 := by kernel_rfl
 i53 := by kernel_rfl
 i171 := by kernel_rfl
 i173 := by kernel_rfl
 i212 := by kernel_rfl
 i232 := by kernel_rfl
 i233 := by kernel_rfl
 m17 := by kernel_rfl
 m18 := by kernel_rfl
 m19 := by kernel_rfl }
open Go.RowKit Go.Sort Go.Lib in
theorem Tryz.strconv_Itoa (n : Int) (h0 : -9223372036854775808 ≤ n) (h1 : n ≤ 9223372036854775807) (w : World) (htab : Lib.TabIs Tryz.prog w "internal/strconv.uint64pow10" .u64 Lib.pow10Tab) :
 Calls Tryz.prog 110 #[.int .i64 n] w fun e w' => e = .returned (.string ⟨(Lib.itoa n).toArray⟩) ∧ ∃ k os, w' = grow (w.drewN k) os := Any.strconv_Itoa Tryz.laysM171 n h0 h1 w htab
def Tryz.laysC172_ren : Go.Shelf.Ren := ⟨fun | 172 => 122 | 244 => 159 | 245 => 160 | 247 => 186 | 279 => 187 | 280 => 188 | 281 => 189 | 282 => 190 | 287 => 215 | 316 => 216 | 171 => 110 | 205 => 217 | 321 => 230 | 322 => 231 | 243 => 150 | 246 => 179 | 283 => 207 | 284 => 208 | 285 => 209 | 286 => 210 | 129 => 170 | 317 => 222 | 318 => 223 | 319 => 224 | 320 => 225 | 337 => 233 | 338 => 234 | n => n, fun | 9 => 9 | 3 => 3 | 75 => 160 | 76 => 161 | 4 => 4 | 5 => 5 | 167 => 224 | 37 => 25 | 0 => 0 | 85 => 225 | 2 => 2 | 168 => 227 | 53 => 212 | 175 => 251 | 46 => 78 | 210 => 254 | 127 => 219 | 145 => 272 | 143 => 270 | 21 => 21 | 171 => 244 | 173 => 246 | 212 => 262 | 51 => 210 | 20 => 20 | 213 => 263 | 232 => 276 | 233 => 277 | 80 => 115 | n => n, fun | 15 => 1 | 16 => 2 | 17 => 3 | 18 => 6 | 19 => 7 | n => n⟩
theorem Tryz.laysC172 : Go.Proofs.LaysC.n172 Tryz.prog Tryz.laysC172_ren := {
 mixed := by kernel_rfl
 f129 := Tryz.func170.trans (congrArg some (by kernel_rfl))
 f171 := Tryz.func110.trans (congrArg some (by kernel_rfl))
 f172 := Tryz.func122.trans (congrArg some (by kernel_rfl))
 f205 := Tryz.func217.trans (congrArg some (by kernel_rfl))
 f243 := Tryz.func150.trans (congrArg some (by kernel_rfl))
 f244 := Tryz.func159.trans (congrArg some (by kernel_rfl))
 f245 := Tryz.func160.trans (congrArg some (by kernel_rfl))
 f246 := Tryz.func179.trans (congrArg some (by kernel_rfl))
 f247 := Tryz.func186.trans (congrArg some (by kernel_rfl))
 f279 := Tryz.func187.trans (congrArg some (by kernel_rfl))
 f280 := Tryz.func188.trans (congrArg some (by kernel_rfl))
 f281 := Tryz.func189.trans (congrArg some (by kernel_rfl))
 f282 := Tryz.func190.trans (congrArg some (by kernel_rfl))
 f283 := Tryz.func207.trans (congrArg some (by kernel_rfl))
 f284 := Tryz.func208.trans (congrArg some (by kernel_rfl))
 f285 := Tryz.func209.trans (congrArg some (by kernel_rfl))
 f286 := Tryz.func210.trans (congrArg some (by kernel_rfl))
 f287 := Tryz.func215.trans (congrArg some (by kernel_rfl))
 f316 := Tryz.func216.trans (congrArg some (by kernel_rfl))
 f317 := Tryz.func222.trans (congrArg some (by kernel_rfl))
 f318 := Tryz.func223.trans (congrArg some (by kernel_rfl))
 f319 := Tryz.func224.trans (congrArg some (by kernel_rfl))
 f320 := Tryz.func225.trans (congrArg some (by kernel_rfl))
 f321 := Tryz.func230.trans (congrArg some (by kernel_rfl))
 f322 := Tryz.func231.trans (congrArg some (by kernel_rfl))
 f337 := Tryz.func233.trans (congrArg some (by kernel_rfl))
 f338 := Tryz.func234.trans (congrArg some (by kernel_rfl))
 t0 := Tryz.underlying0
 a0 := Tryz.isAgg0
 z0 := Tryz.sizeOf0
 v0 := Tryz.zeroValue0
 t2 := Tryz.underlying2
 a2 := Tryz.isAgg2
 z2 := Tryz.sizeOf2
 v2 := Tryz.zeroValue2
 t3 := Tryz.underlying3
 a3 := Tryz.isAgg3
 z3 := Tryz.sizeOf3
 v3 := Tryz.zeroValue3
 t4 := Tryz.underlying4
 a4 := Tryz.isAgg4
 z4 := Tryz.sizeOf4
 v4 := Tryz.zeroValue4
 t5 := Tryz.underlying5
 a5 := Tryz.isAgg5
 z5 := Tryz.sizeOf5
 v5 := Tryz.zeroValue5
 t9 := Tryz.underlying9
 a9 := Tryz.isAgg9
 z9 := Tryz.sizeOf9
 v9 := Tryz.zeroValue9
 t20 := Tryz.underlying20
 a20 := Tryz.isAgg20
 z20 := Tryz.sizeOf20
 v20 := Tryz.zeroValue20
 t21 := Tryz.underlying21
 a21 := Tryz.isAgg21
 z21 := Tryz.sizeOf21
 v21 := Tryz.zeroValue21
 t37 := Tryz.underlying25
 a37 := Tryz.isAgg25
 z37 := Tryz.sizeOf25
 v37 := Tryz.zeroValue25
 t46 := Tryz.underlying78
 a46 := Tryz.isAgg78
 z46 := Tryz.sizeOf78
 v46 := Tryz.zeroValue78
 t51 := Tryz.underlying210
 a51 := Tryz.isAgg210
 z51 := Tryz.sizeOf210
 v51 := Tryz.zeroValue210
 t53 := Tryz.underlying212
 a53 := Tryz.isAgg212
 z53 := Tryz.sizeOf212
 v53 := Tryz.zeroValue212
 t75 := Tryz.underlying160
 a75 := Tryz.isAgg160
 z75 := Tryz.sizeOf160
 v75 := Tryz.zeroValue160
 t76 := Tryz.underlying161
 a76 := Tryz.isAgg161
 z76 := Tryz.sizeOf161
 v76 := Tryz.zeroValue161
 t85 := Tryz.underlying225
 a85 := Tryz.isAgg225
 z85 := Tryz.sizeOf225
 v85 := Tryz.zeroValue225
 t127 := Tryz.underlying219
 a127 := Tryz.isAgg219
 z127 := Tryz.sizeOf219
 v127 := Tryz.zeroValue219
 t143 := Tryz.underlying270
 a143 := Tryz.isAgg270
 z143 := Tryz.sizeOf270
 v143 := Tryz.zeroValue270
 t145 := Tryz.underlying272
 a145 := Tryz.isAgg272
 z145 := Tryz.sizeOf272
 v145 := Tryz.zeroValue272
 t167 := Tryz.underlying224
 a167 := Tryz.isAgg224
 z167 := Tryz.sizeOf224
 v167 := Tryz.zeroValue224
 t168 := Tryz.underlying227
 a168 := Tryz.isAgg227
 z168 := Tryz.sizeOf227
 v168 := Tryz.zeroValue227
 t171 := Tryz.underlying244
 a171 := Tryz.isAgg244
 z171 := Tryz.sizeOf244
 v171 := Tryz.zeroValue244
 t173 := Tryz.underlying246
 a173 := Tryz.isAgg246
 z173 := Tryz.sizeOf246
 v173 := Tryz.zeroValue246
 t175 := Tryz.underlying251
 a175 := Tryz.isAgg251
 z175 := Tryz.sizeOf251
 v175 := Tryz.zeroValue251
 t210 := Tryz.underlying254
 a210 := Tryz.isAgg254
 z210 := Tryz.sizeOf254
 v210 := Tryz.zeroValue254
 t212 := Tryz.underlying262
 a212 := Tryz.isAgg262
 z212 := Tryz.sizeOf262
 v212 := Tryz.zeroValue262
 t213 := Tryz.underlying263
 a213 := Tryz.isAgg263
 z213 := Tryz.sizeOf263
 t232 := Tryz.underlying276
 a232 := Tryz.isAgg276
 z232 := Tryz.sizeOf276
 v232 := Tryz.zeroValue276
 t233 := Tryz.underlying277
 a233 := Tryz.isAgg277
 z233 := Tryz.sizeOf277
 v233 := Tryz.zeroValue277
 g15 := by kernel_rfl
 g16 := by kernel_rfl
 g17 := by kernel_rfl
 g18 := by kernel_rfl
 g19 := by kernel_rfl
 t80 := Tryz.underlying115
 a80 := Tryz.isAgg115
 z80 := Tryz.sizeOf115
 v80 := Tryz.zeroValue115
 i0 := by kernel_rfl
 i2 := by kernel_rfl
 i3 := by kernel_rfl
 i4 := by kernel_rfl
 i5 := by kernel_rfl
 i9 := by kernel_rfl
 i20 := by kernel_rfl
 i21 := by kernel_rfl
 i37 := by kernel_rfl
 i46 := by kernel_rfl
 i51 := by kernel_rfl
 i53 := by kernel_rfl
 i75 := by kernel_rfl
 i76 := by kernel_rfl
 i80 := by kernel_rfl
 i85 := by kernel_rfl
 i127 := by kernel_rfl
 i143 := by kernel_rfl
 i145 := by kernel_rfl
 i167 := by kernel_rfl
 i168 := by kernel_rfl
 i171 := by kernel_rfl
 i173 := by kernel_rfl
 i175 := by kernel_rfl
 i210 := by kernel_rfl
 i212 := by kernel_rfl
 i232 := by kernel_rfl
 i233 := by kernel_rfl
 m15 := by kernel_rfl
 m16 := by kernel_rfl
 m17 := by kernel_rfl
 m18 := by kernel_rfl
 m19 := by kernel_rfl
 c0 := by kernel_rfl
 c2 := by kernel_rfl
 c3 := by kernel_rfl
 c4 := by kernel_rfl
 c5 := by kernel_rfl
 c9 := by kernel_rfl
 c20 := by kernel_rfl
 c21 := by kernel_rfl
 c37 := by kernel_rfl
 c46 := by kernel_rfl
 c51 := by kernel_rfl
 c53 := by kernel_rfl
 c75 := by kernel_rfl
 c76 := by kernel_rfl
 c80 := by kernel_rfl
 c85 := by kernel_rfl
 c127 := by kernel_rfl
 c143 := by kernel_rfl
 c145 := by kernel_rfl
 c167 := by kernel_rfl
 c168 := by kernel_rfl
 c171 := by kernel_rfl
 c173 := by kernel_rfl
 c175 := by kernel_rfl
 c210 := by kernel_rfl
 c212 := by kernel_rfl
 c213 := by kernel_rfl
 c232 := by kernel_rfl
 c233 := by kernel_rfl }
open Go.RowKit in
theorem Tryz.strconv_Atoi_ok (s : ByteArray) (hmax : s.size ≤ 9223372036854775806) (v : Int) (h : Lib.atoiAll s.data.toList = .ok v) (w : World) :
 Calls Tryz.prog 122 #[.string s] w fun e w' => e = .returned (.tuple #[.int .i64 v, .nilIface]) ∧ (w' = w ∨ ∃ t, w' = Lib.bytesWorld w 5 t) := Any.strconv_Atoi_ok Tryz.laysC172 s hmax v h w
open Go.RowKit in
theorem Tryz.strconv_Atoi_syntax (s : ByteArray) (hlim : s.size ≤ 281474976710656) (h : Lib.atoiAll s.data.toList = .«syntax») (ev : Value) (w : World) (hv : w.cell? ⟨1, 0, none⟩ = some ev) (hev : ev = .nilIface ∨ ∃ te pe, ev = .iface te pe) :
 Calls Tryz.prog 122 #[.string s] w fun e w' => ∃ N, e = .returned (.tuple #[.int .i64 (0), .iface 227 (.pointer (some ⟨N, 0, none⟩))]) ∧ w.heap.size ≤ N ∧ w'.heap[N]? = some (.cells #[.string ⟨#[65, 116, 111, 105]⟩, .string s, ev] 254 (0, 0)) ∧ Below w.heap.size w w' := Any.strconv_Atoi_syntax Tryz.laysC172 s hlim h ev w hv hev
open Go.RowKit in
theorem Tryz.strconv_Atoi_range (s : ByteArray) (hlim : s.size ≤ 281474976710656) (h : Lib.atoiAll s.data.toList = .range) (ev : Value) (w : World) (hv : w.cell? ⟨2, 0, none⟩ = some ev) (hev : ev = .nilIface ∨ ∃ te pe, ev = .iface te pe) :
 Calls Tryz.prog 122 #[.string s] w fun e w' => ∃ N, e = .returned (.tuple #[.int .i64 (Lib.atoiSat s.data.toList), .iface 227 (.pointer (some ⟨N, 0, none⟩))]) ∧ w.heap.size ≤ N ∧ w'.heap[N]? = some (.cells #[.string ⟨#[65, 116, 111, 105]⟩, .string s, ev] 254 (0, 0)) ∧ Below w.heap.size w w' := Any.strconv_Atoi_range Tryz.laysC172 s hlim h ev w hv hev
def Tryz.lays143_ren : Go.Shelf.Ren := ⟨fun | 143 => 185 | 219 => 214 | 217 => 226 | 225 => 227 | 224 => 228 | 267 => 229 | 266 => 235 | 314 => 236 | n => n, fun | 9 => 9 | 3 => 3 | 4 => 4 | 5 => 5 | 46 => 78 | 146 => 274 | 51 => 210 | n => n, fun | 1 => 0 | n => n⟩
theorem Tryz.lays143 : Go.Proofs.Lays.n143 Tryz.prog Tryz.lays143_ren := {
 mixed := by kernel_rfl
 f143 := Tryz.func185.trans (congrArg some (by kernel_rfl))
 f217 := Tryz.func226.trans (congrArg some (by kernel_rfl))
 f219 := Tryz.func214.trans (congrArg some (by kernel_rfl))
 f224 := Tryz.func228.trans (congrArg some (by kernel_rfl))
 f225 := Tryz.func227.trans (congrArg some (by kernel_rfl))
 f266 := Tryz.func235.trans (congrArg some (by kernel_rfl))
 f267 := Tryz.func229.trans (congrArg some (by kernel_rfl))
 f314 := Tryz.func236.trans (congrArg some (by kernel_rfl))
 t3 := Tryz.underlying3
 a3 := Tryz.isAgg3
 z3 := Tryz.sizeOf3
 v3 := Tryz.zeroValue3
 t4 := Tryz.underlying4
 a4 := Tryz.isAgg4
 z4 := Tryz.sizeOf4
 v4 := Tryz.zeroValue4
 t5 := Tryz.underlying5
 a5 := Tryz.isAgg5
 z5 := Tryz.sizeOf5
 v5 := Tryz.zeroValue5
 t9 := Tryz.underlying9
 a9 := Tryz.isAgg9
 z9 := Tryz.sizeOf9
 v9 := Tryz.zeroValue9
 t46 := Tryz.underlying78
 a46 := Tryz.isAgg78
 z46 := Tryz.sizeOf78
 v46 := Tryz.zeroValue78
 t51 := Tryz.underlying210
 a51 := Tryz.isAgg210
 z51 := Tryz.sizeOf210
 v51 := Tryz.zeroValue210
 t146 := Tryz.underlying274
 a146 := Tryz.isAgg274
 z146 := Tryz.sizeOf274
 v146 := Tryz.zeroValue274
 g1 := by kernel_rfl }
open Go.RowKit Go.Lib in
theorem Tryz.strings_Index_one (s : ByteArray) (c : UInt8) (w : World) :
 Calls Tryz.prog 185 #[.string s, .string ⟨#[c]⟩] w fun e w' => e = .returned (.int .i64 (Lib.indexByte s.data.toList c)) ∧ w' = w := Any.strings_Index_one Tryz.lays143 s c w
def Tryz.lays145_ren : Go.Shelf.Ren := ⟨fun | 145 => 173 | 220 => 196 | 219 => 214 | 217 => 226 | 225 => 227 | 224 => 228 | 267 => 229 | 266 => 235 | 314 => 236 | n => n, fun | 9 => 9 | 4 => 4 | 59 => 214 | 3 => 3 | 5 => 5 | 46 => 78 | 146 => 274 | 51 => 210 | n => n, fun | 1 => 0 | n => n⟩
theorem Tryz.lays145 : Go.Proofs.Lays.n145 Tryz.prog Tryz.lays145_ren := {
 mixed := by kernel_rfl
 f145 := Tryz.func173.trans (congrArg some (by kernel_rfl))
 f217 := Tryz.func226.trans (congrArg some (by kernel_rfl))
 f219 := Tryz.func214.trans (congrArg some (by kernel_rfl))
 f220 := Tryz.func196.trans (congrArg some (by kernel_rfl))
 f224 := Tryz.func228.trans (congrArg some (by kernel_rfl))
 f225 := Tryz.func227.trans (congrArg some (by kernel_rfl))
 f266 := Tryz.func235.trans (congrArg some (by kernel_rfl))
 f267 := Tryz.func229.trans (congrArg some (by kernel_rfl))
 f314 := Tryz.func236.trans (congrArg some (by kernel_rfl))
 t3 := Tryz.underlying3
 a3 := Tryz.isAgg3
 z3 := Tryz.sizeOf3
 v3 := Tryz.zeroValue3
 t4 := Tryz.underlying4
 a4 := Tryz.isAgg4
 z4 := Tryz.sizeOf4
 v4 := Tryz.zeroValue4
 t5 := Tryz.underlying5
 a5 := Tryz.isAgg5
 z5 := Tryz.sizeOf5
 v5 := Tryz.zeroValue5
 t9 := Tryz.underlying9
 a9 := Tryz.isAgg9
 z9 := Tryz.sizeOf9
 v9 := Tryz.zeroValue9
 t46 := Tryz.underlying78
 a46 := Tryz.isAgg78
 z46 := Tryz.sizeOf78
 v46 := Tryz.zeroValue78
 t51 := Tryz.underlying210
 a51 := Tryz.isAgg210
 z51 := Tryz.sizeOf210
 v51 := Tryz.zeroValue210
 t59 := Tryz.underlying214
 a59 := Tryz.isAgg214
 z59 := Tryz.sizeOf214
 v59 := Tryz.zeroValue214
 t146 := Tryz.underlying274
 a146 := Tryz.isAgg274
 z146 := Tryz.sizeOf274
 v146 := Tryz.zeroValue274
 g1 := by kernel_rfl }
open Go.RowKit Go.Lib in
def Tryz.lays194_ren : Go.Shelf.Ren := ⟨fun | 194 => 146 | n => n, fun | 31 => 26 | 9 => 9 | 3 => 3 | 4 => 4 | 0 => 0 | n => n, fun | n => n⟩
theorem Tryz.lays194 : Go.Proofs.Lays.n194 Tryz.prog Tryz.lays194_ren := {
 mixed := by kernel_rfl
 f194 := Tryz.func146.trans (congrArg some (by kernel_rfl))
 t0 := Tryz.underlying0
 a0 := Tryz.isAgg0
 z0 := Tryz.sizeOf0
 v0 := Tryz.zeroValue0
 t3 := Tryz.underlying3
 a3 := Tryz.isAgg3
 z3 := Tryz.sizeOf3
 v3 := Tryz.zeroValue3
 t4 := Tryz.underlying4
 a4 := Tryz.isAgg4
 z4 := Tryz.sizeOf4
 v4 := Tryz.zeroValue4
 t9 := Tryz.underlying9
 a9 := Tryz.isAgg9
 z9 := Tryz.sizeOf9
 v9 := Tryz.zeroValue9
 t31 := Tryz.underlying26
 a31 := Tryz.isAgg26
 z31 := Tryz.sizeOf26
 v31 := Tryz.zeroValue26 }
open Go.RowKit Go.Lib Go.Sort in
theorem Tryz.slices_Compact_string (blk off cap : Nat) (zs : List (List UInt8)) (w : World) (hH : Holds encStr w blk off zs.toArray) (hsz : zs.length ≤ 9223372036854775807) (hcap : zs.length ≤ cap) :
 Calls Tryz.prog 146 #[.slice (some ⟨blk, off, none⟩) zs.length cap] w fun e w' => e = .returned (.slice (some ⟨blk, off, none⟩) (Lib.compact zs).length cap) ∧ ∃ q, w' = putRow encStr (Sort.ahead w q) blk off (Lib.compact zs ++ List.replicate (zs.length - (Lib.compact zs).length) []).toArray := Any.slices_Compact_string Tryz.lays194 blk off cap zs w hH hsz hcap
open Go.RowKit Go.Lib Go.Sort in
theorem Tryz.slices_Compact_string_empty (a : Option Addr) (cap : Nat) (w : World) :
 Calls Tryz.prog 146 #[.slice a 0 cap] w fun e w' => e = .returned (.slice a 0 cap) ∧ w' = w := Any.slices_Compact_string_empty Tryz.lays194 a cap w
end Go.Proofs
namespace Go.Proofs.YtgcbfggoddkhnaaGreatDoor
open Go.RowKit
def Env (w : World) : Prop :=
 8 ≤ w.heap.size ∧ (∃ m, w.cell? ⟨0, 0, none⟩ = some (.int .i64 m)) ∧ (∃ te pe, w.cell? ⟨1, 0, none⟩ = some (.iface te pe)) ∧ (∃ te pe, w.cell? ⟨2, 0, none⟩ = some (.iface te pe)) ∧
  Lib.TabIs Tryz.prog w "internal/strconv.uint64pow10" .u64 Lib.pow10Tab
theorem Tryz.namedPow : Tryz.prog.globalNamed "internal/strconv.uint64pow10" = some 3 := by kernel_rfl
theorem Env.below {w w' : World} {B : Nat} (h : Env w) (hb : Below B w w') (hB : 8 ≤ B) : Env w' := by
 obtain ⟨h0, ⟨m, h1⟩, ⟨t2, p2, h2⟩, ⟨t3, p3, h3⟩, h4⟩ := h
 exact ⟨Nat.le_trans h0 hb.size, ⟨m, (hb.cell (p := ⟨0, 0, none⟩) (show 0 < B by omega)).trans h1⟩, ⟨t2, p2, (hb.cell (p := ⟨1, 0, none⟩) (show 1 < B by omega)).trans h2⟩,
  ⟨t3, p3, (hb.cell (p := ⟨2, 0, none⟩) (show 2 < B by omega)).trans h3⟩, var?_below hb Tryz.namedPow (by omega) h4⟩
theorem Env.on {w w' : World} (h : Env w) (hb : Below w.heap.size w w') : Env w' := h.below hb h.1
def str (l : List UInt8) : ByteArray := ⟨l.toArray⟩
theorem str_size (l : List UInt8) : (str l).size = l.length := by simp [str, ByteArray.size]
theorem str_list (l : List UInt8) : (str l).data.toList = l := by simp [str]
theorem str_of (s : ByteArray) : s = str s.data.toList := by simp [str]
theorem str_inj {a b : List UInt8} (h : str a = str b) : a = b := by rw [← str_list a, h, str_list]
theorem str_append (a b : List UInt8) : str a ++ str b = str (a ++ b) := by
 apply ByteArray.ext
 simp [str, ByteArray.data_append]
theorem str_same {a b : List UInt8} (h : a = b) : ((str a).toList == (str b).toList) = true := by subst h; simp
theorem str_differs {a b : List UInt8} (h : ¬ a = b) : ((str a).toList == (str b).toList) = false := by
 rw [beq_eq_false_iff_ne]
 intro e
 rw [ByteArray.toList_eq, ByteArray.toList_eq, str_list, str_list] at e
 exact h e
def RetB (w : World) (v : Value) (e : Ending) (w' : World) : Prop := e = .returned v ∧ Below w.heap.size w w'
theorem below_drewN {B : Nat} {w w' : World} (h : Below B w w') (n : Nat) : Below B w (w'.drewN n) := ⟨h.os, h.tape, h.output, h.size, h.block⟩
theorem below_grow (w : World) (k : Nat) (os : Array Obj) : Below w.heap.size w (Sort.grow (w.drewN k) os) :=
 ⟨rfl, rfl, rfl, by simp [Sort.grow, World.drewN], fun i hi => by simp only [Sort.grow, World.drewN]; rw [Array.getElem?_append_left hi]⟩
theorem itoa_more {w : World} {n : Int} (h : Env w) (h0 : -9223372036854775808 ≤ n) (h1 : n ≤ 9223372036854775807) : Calls Tryz.prog 110 #[.int .i64 n] w fun e w' => RetB w (.string (str (Lib.itoa n))) e w' ∧ w.drawn ≤ w'.drawn := by
 refine (Tryz.strconv_Itoa n h0 h1 w h.2.2.2.2).mono ?_
 rintro e w' ⟨rfl, k, os, rfl⟩
 exact ⟨⟨rfl, below_grow w k os⟩, Nat.le_add_right _ _⟩
theorem itoa_any {w : World} {n : Int} (h : Env w) (h0 : -9223372036854775808 ≤ n) (h1 : n ≤ 9223372036854775807) : Calls Tryz.prog 110 #[.int .i64 n] w (RetB w (.string (str (Lib.itoa n)))) := by
 refine (Tryz.strconv_Itoa n h0 h1 w h.2.2.2.2).mono ?_
 rintro e w' ⟨rfl, k, os, rfl⟩
 exact ⟨rfl, below_grow w k os⟩
def RetAtoi (w : World) (t : List UInt8) (e : Ending) (w' : World) : Prop :=
 Below w.heap.size w w' ∧ ((∃ v, Lib.atoiAll t = .ok v ∧ -9223372036854775808 ≤ v ∧ v ≤ 9223372036854775807 ∧ e = .returned (.tuple #[.int .i64 v, .nilIface]) ∧ w.drawn ≤ w'.drawn) ∨
  ((∀ v, Lib.atoiAll t ≠ .ok v) ∧ ∃ v N, e = .returned (.tuple #[.int .i64 v, .iface 227 (.pointer (some ⟨N, 0, none⟩))])))
theorem atoi_any {w : World} {t : List UInt8} (h : Env w) (hn : t.length ≤ 140737488351232) : Calls Tryz.prog 122 #[.string (str t)] w (RetAtoi w t) := by
 have hs : (str t).size ≤ 140737488351232 := by rw [str_size]; exact hn
 obtain ⟨_, _, ⟨t2, p2, h2⟩, ⟨t3, p3, h3⟩, _⟩ := h
 cases ha : Lib.atoiAll t with
 | ok v =>
  refine (Tryz.strconv_Atoi_ok (str t) (by omega) v (by rw [str_list]; exact ha) w).mono ?_
  rintro e w' ⟨rfl, hw⟩
  have hb := Lib.atoiAll_bounds ha
  refine ⟨?_, .inl ⟨v, ha, hb.1, hb.2, rfl, ?_⟩⟩
  · rcases hw with rfl | ⟨u, rfl⟩
    · exact Below.refl _ _
    · exact Lib.bytesWorld_below w 5 u
  · rcases hw with rfl | ⟨u, rfl⟩
    · exact Nat.le_refl _
    · exact Nat.le_add_right _ 1
 | «syntax» =>
  refine (Tryz.strconv_Atoi_syntax (str t) (by omega) (by rw [str_list]; exact ha) _ w h2 (.inr ⟨_, _, rfl⟩)).mono ?_
  rintro e w' ⟨N, rfl, _, _, hb⟩
  exact ⟨hb, .inr ⟨fun v => (by rw [ha]; intro e; cases e), _, N, rfl⟩⟩
 | range =>
  refine (Tryz.strconv_Atoi_range (str t) (by omega) (by rw [str_list]; exact ha) _ w h3 (.inr ⟨_, _, rfl⟩)).mono ?_
  rintro e w' ⟨N, rfl, _, _, hb⟩
  exact ⟨hb, .inr ⟨fun v => (by rw [ha]; intro e; cases e), _, N, rfl⟩⟩
theorem inRange_any (n most : Int) (w : World) : Calls Tryz.prog 197 #[.int .i64 n, .int .i64 most] w fun e w' => e = .returned (.bool (decide (0 ≤ n ∧ n ≤ most))) ∧ w = w' := by
 by_cases h0 : 0 ≤ n
 · by_cases h1 : n ≤ most
   · rw [decide_eq_true ⟨h0, h1⟩]
     go_enter Tryz.func197, Tryz.ntmps197
     go_wp2_with fail
     go_ret
     exact ⟨rfl, rfl⟩
   · rw [decide_eq_false (fun h => h1 h.2)]
     go_enter Tryz.func197, Tryz.ntmps197
     go_wp2_with fail
     go_ret
     exact ⟨rfl, rfl⟩
 · rw [decide_eq_false (fun h => h0 h.1)]
   go_enter Tryz.func197, Tryz.ntmps197
   go_wp2_with fail
   go_ret
   exact ⟨rfl, rfl⟩
def RetNum (most : Nat) (w : World) (t : List UInt8) (e : Ending) (w' : World) : Prop :=
 Below w.heap.size w w' ∧ ((∃ u : Nat, IsNum most t u ∧ e = .returned (.tuple #[.int .i64 (u : Int), .bool true]) ∧ w.drawn ≤ w'.drawn) ∨ ((∀ u, ¬ IsNum most t u) ∧ e = .returned (.tuple #[.int .i64 0, .bool false])))
set_option maxRecDepth 100000 in
theorem parseNumber_any {w : World} {t : List UInt8} {most : Nat} (h : Env w) (hn : t.length ≤ 140737488351232) (hm : most ≤ 1048576) :
   Calls Tryz.prog 175 #[.string (str t), .int .i64 (most : Int)] w (RetNum most w t) := by
 have H := Lib.hid h
 have H36 := Lib.hid (atoi_any h hn)
 clear h
 go_enter Tryz.func175, Tryz.ntmps175
 go_wp2_with fail
 refine H36.out.mono ?_
 rintro e w1 ⟨hb, (⟨v, ha, hv0, hv1, rfl, hdr⟩ | ⟨ha, v, N, rfl⟩)⟩
 · have HB := Lib.hid hb
   have HE := Lib.hid (H.out.on hb)
   have HA := Lib.hid ha
   clear hb ha
   by_cases hr : 0 ≤ v ∧ v ≤ (most : Int)
   · have H22 := Lib.hid (inRange_any v most w1)
     rw [decide_eq_true hr] at H22
     have H24 := Lib.hid (itoa_more HE.out hv0 hv1)
     have HDR := Lib.hid hdr
     clear hdr
     by_cases hs : Lib.itoa v = t
     · have hq := str_same hs
       have HI := Lib.hid (isNum_itoa hr.1 hr.2 hs)
       have hu : ((v.toNat : Nat) : Int) = v := by omega
       have HU := Lib.hid hu
       clear hr hu hs
       go_wp2_with (first
        | (go_at_call 197; refine H22.out.mono ?_; rintro e w' ⟨rfl, rfl⟩)
        | (go_at_call 110; refine H24.out.mono ?_; rintro e w2 ⟨⟨rfl, hb2⟩, hd2⟩))
       go_ret2
       exact ⟨HB.out.trans (hb2.mono HB.out.size), .inl ⟨v.toNat, HI.out, by rw [HU.out]; rfl, Nat.le_trans HDR.out hd2⟩⟩
     · have hq := str_differs hs
       have HI : Hid (∀ u, ¬ IsNum most t u) := fun u hu => by
        have h1 := isNum_ok hm hu
        have : v = (u : Int) := by have := HA.out.symm.trans h1.1; injection this
        subst this
        exact hs h1.2
       clear hr hs
       go_wp2_with (first
        | (go_at_call 197; refine H22.out.mono ?_; rintro e w' ⟨rfl, rfl⟩)
        | (go_at_call 110; refine H24.out.mono ?_; rintro e w2 ⟨⟨rfl, hb2⟩, _⟩))
       go_ret2
       exact ⟨HB.out.trans (hb2.mono HB.out.size), .inr ⟨HI.out, rfl⟩⟩
   · have H22 := Lib.hid (inRange_any v most w1)
     rw [decide_eq_false hr] at H22
     have HI : Hid (∀ u, ¬ IsNum most t u) := fun u hu => by
       have h1 := isNum_ok hm hu
       have : v = (u : Int) := by have := HA.out.symm.trans h1.1; injection this
       have h2 := hu.1
       exact hr (by omega)
     clear hr
     go_wp2_with (first
       | (go_at_call 197; refine H22.out.mono ?_; rintro e w' ⟨rfl, rfl⟩))
     go_ret2
     exact ⟨HB.out, .inr ⟨HI.out, rfl⟩⟩
 · have HB := Lib.hid hb
   have HI : Hid (∀ u, ¬ IsNum most t u) := fun u hu => ha _ (isNum_ok hm hu).1
   clear hb ha
   go_wp2_with fail
   go_ret2
   exact ⟨HB.out, .inr ⟨HI.out, rfl⟩⟩
end Go.Proofs.YtgcbfggoddkhnaaGreatDoor
namespace Go.Proofs.YtgcbfggoddkhnaaGreatDoor
open Go.RowKit Go.Shelf
theorem indexLite_one (s : ByteArray) (c : UInt8) (w : World) : Calls Tryz.prog 214 #[.string s, .string ⟨#[c]⟩] w fun e w' => e = .returned (.int .i64 (Lib.indexB s ⟨#[c]⟩)) ∧ w = w' := by
 refine Calls.mono (show Calls Tryz.prog 214 _ _ _ from Any.stringslite_Index_one (P := Tryz.prog) (ρ := Tryz.lays145_ren) { Tryz.lays145 with } s c w) ?_
 rintro e w' ⟨rfl, rfl⟩
 refine ⟨?_, rfl⟩
 rw [show Lib.indexB s ⟨#[c]⟩ = Lib.index s.data.toList [c] from rfl, Lib.index_one]
def RetCut (s : ByteArray) (c : UInt8) (w : World) (e : Ending) (w' : World) : Prop :=
 e = .returned (.tuple #[.string ⟨(Lib.cut s.data.toList [c]).1.toArray⟩, .string ⟨(Lib.cut s.data.toList [c]).2.1.toArray⟩, .bool (Lib.cut s.data.toList [c]).2.2]) ∧ ∃ n, w' = w.drewN n
set_option maxRecDepth 100000 in
theorem cutLite_one (s : ByteArray) (c : UInt8) (hs : s.size ≤ 140737488351232) (w : World) : Calls Tryz.prog 196 #[.string s, .string ⟨#[c]⟩] w (RetCut s c w) := by
 have H := Lib.hid (indexLite_one s c w)
 rcases Lib.indexB_cases s ⟨#[c]⟩ with hix | ⟨i, hix, hroom⟩
 · have HD := Lib.hid (Lib.cutB_miss s ⟨#[c]⟩ hix)
   rw [hix] at H
   clear hix
   go_enter Tryz.func196, Tryz.ntmps196
   go_wp2_with fail
   refine H.out.mono ?_
   rintro e w' ⟨rfl, rfl⟩
   go_wp2_with fail
   go_ret3
   obtain ⟨e1, e2, e3⟩ := HD.out
   refine ⟨?_, 0, rfl⟩
   have f1 : (⟨(Lib.cut s.data.toList [c]).1.toArray⟩ : ByteArray) = s := e1
   have f2 : (⟨(Lib.cut s.data.toList [c]).2.1.toArray⟩ : ByteArray) = ByteArray.empty := e2
   have f3 : (Lib.cut s.data.toList [c]).2.2 = false := e3
   rw [f1, f2, f3]
   rfl
 · have HD := Lib.hid (Lib.cutB_hit s ⟨#[c]⟩ i hix)
   rw [hix] at H
   have hz : (⟨#[c]⟩ : ByteArray).size = 1 := rfl
   rw [hz] at hroom
   have c1 : (0 : Int) ≤ ↑i := by omega
   have c2 : (↑i : Int) ≤ ↑s.size := by omega
   have c3 : (0 : Int) ≤ ↑i + 1 := by omega
   have c4 : (↑i + 1 : Int) ≤ ↑s.size := by omega
   clear hix
   go_enter Tryz.func196, Tryz.ntmps196
   go_wp2_with fail
   refine H.out.mono ?_
   rintro e w' ⟨rfl, rfl⟩
   go_wp2_with fail
   go_region
   go_wp2_with fail
   go_ret3
   obtain ⟨e1, e2, e3⟩ := HD.out
   refine ⟨?_, 1, rfl⟩
   have f1 : (⟨(Lib.cut s.data.toList [c]).1.toArray⟩ : ByteArray) = s.extract 0 i := e1
   have f2 : (⟨(Lib.cut s.data.toList [c]).2.1.toArray⟩ : ByteArray) = s.extract (i + 1) s.size := e2
   have f3 : (Lib.cut s.data.toList [c]).2.2 = true := e3
   rw [f1, f2, f3]
   rfl
theorem cutOne (s : ByteArray) (c : UInt8) (hs : s.size ≤ 140737488351232) (w : World) : Calls Tryz.prog 173 #[.string s, .string ⟨#[c]⟩] w (RetCut s c w) := by
 have H := Lib.hid (cutLite_one s c hs w)
 go_enter Tryz.func173, Tryz.ntmps173
 go_wp2_with fail
 refine H.out.mono ?_
 rintro e w' ⟨rfl, n, rfl⟩
 go_wp2_with fail
 go_ret3
 exact ⟨rfl, n, rfl⟩
end Go.Proofs.YtgcbfggoddkhnaaGreatDoor
namespace Go.Proofs.YtgcbfggoddkhnaaGreatDoor
open Go.RowKit
def Gives {α : Type} (F : Fence) (n : Nat) (P : Program) (gf : Nat) (lb : Array Value) (encs : α → Array Value) (Kp G : World → World → Prop) (S Sp : List α → Prop) (Ok : α → Prop) (w : World) : Prop :=
 ∀ (l : Nat) (J Jx : List α → World → Prop) (W : World), Kp w W → (∀ p A B, J p A → G A B → J p B) → (∀ p A B, Jx p A → G A B → Jx p B) →
  (∀ pre x W1, J pre W1 → Ok x → YieldAt F (n - 1) P l (encs x) W1 fun e W' =>
   (e = .returned (.bool true) ∧ J (pre ++ [x]) W' ∧ Kp W1 W') ∨ (e = .returned (.bool false) ∧ Jx (pre ++ [x]) W')) →
  J [] W →
  CallsIn F n P gf (#[.func (.yield l) #[] #[]] ++ lb) W fun e W' => (∃ v, e = .returned v) ∧ ((∃ xs, S xs ∧ J xs W') ∨ (∃ pre, Sp pre ∧ Jx pre W'))
def Book (D : Nat) (r : Loop) (W : World) : Prop := W.heap[D + 1]? = some (.loop r) ∧ W.heap[D]? = some (.deferred (some []))
theorem Book.put {D : Nat} {r : Loop} {W : World} (h : Book D r W) (r' : Loop) : Book D r' (W.putObj (D + 1) (.loop r')) :=
 ⟨World.putObj_heap_same (Array.getElem?_eq_some_iff.1 h.1).1, (World.putObj_heap_other (by omega)).trans h.2⟩
theorem Book.keeps {D : Nat} {r : Loop} {W W' : World} (h : Book D r W) (hk : KeepsOthers W W') : Book D r W' := ⟨hk.same _ _ h.1 rfl, hk.same _ _ h.2 rfl⟩
def Abides (n : Nat) {β : Type} (I : β → World → Prop) : Prop := (∀ s W o, I s W → I s (W.alloc o)) ∧ ∀ s W l o o', I s W → n ≤ l → W.heap[l]? = some o → o.isCells = false → I s (W.putObj l o')
variable {F : Fence} {n : Nat} {P : Program}
theorem wpIn_rangeFunc_steps {α : Type} {g : Operand} {ps : Array Tmp} {assign body : Code} {Q : Exit → Act → World → Prop} {a : Act} {w : World}
   (hro : F.round = none) (h1 : 1 ≤ n) {gf : Nat} {lb : Array Value} (hg : a.eval g = .func (.func gf) #[] lb) (hFg : F.fn gf) (eg : ∀ args w, (callFunc gf args).run P w = .ok (.enter gf args) w)
   {encs : α → Array Value} {Kp G : World → World → Prop} {S Sp : List α → Prop} {Ok : α → Prop} (hseq : Gives F (n - 1) P gf lb encs Kp G S Sp Ok w)
   (hKt : ∀ {A B C : World}, Kp A B → Kp B C → Kp A C) (hKa : ∀ (W : World) (o : Obj), Kp W (W.alloc o)) (hKb : ∀ (W : World) (l : Nat) (o' : Obj), w.heap.size ≤ l → Kp W (W.putObj l o'))
   (hG : ∀ (A B : World) (k : Nat) (o : Obj), G A B → w.heap.size ≤ k → A.heap[k]? = some o → o.isCells = false → B.heap[k]? = some o) (hps : ∀ x, (encs x).size = ps.size)
   (I : List α → World → Prop) (Ix : Code → List α → World → Prop) (hI : Abides w.heap.size I) (hIx : ∀ c, Abides w.heap.size (Ix c))
   (hIG : ∀ p A B, I p A → G A B → I p B) (hIxG : ∀ c p A B, Ix c p A → G A B → Ix c p B) (h0 : I [] w) (a₁ : α → Act)
   (hassign : ∀ (l : Nat) (x : α) (W : World) (K : Act → World → Prop), K (a₁ x) W →
     assign.wpIn (F.inRound l) (n - 1 - 1) P (Exit.then K (fun _ _ _ => False)) { tmps := (ps.zip (encs x)).foldl (fun t (p, v) => t.setIfInBounds p v) a.tmps, defers := [] } W)
   (hbody : ∀ (l : Nat) (pre : List α) (x : α) (W : World), I pre W → Ok x → body.wpIn (F.inRound l) (n - 1 - 1) P (ownPostK Kp I Ix (pre ++ [x]) W) (a₁ x) W)
   (hdone : ∀ (D : Nat) (xs : List α) (W : World), w.heap.size ≤ D → S xs → I xs W → W.heap[D]? = some (.deferred (some [])) → Q .normal { a with defers := { target := .collected D, args := #[] } :: a.defers } W)
   (hstop : ∀ (D : Nat) (c : Code) (pre : List α) (W : World), w.heap.size ≤ D → Sp pre → Ix c pre W → W.heap[D]? = some (.deferred (some [])) → c.wpIn F n P Q { a with defers := { target := .collected D, args := #[] } :: a.defers } W) :
   (Code.rangeFunc g ps assign body).wpIn F n P Q a w := by
 refine wpIn_rangeFunc fun fn hfn => ?_
 rw [hro]
 obtain ⟨D, hD⟩ : ∃ D, D = w.heap.size := ⟨_, rfl⟩
 obtain ⟨lp, hlp⟩ : ∃ lp : LoopState → Option Code → Loop, lp = fun st pe => { state := st, pending := pe, fn, tmps := a.tmps, params := ps, assign, body, defers := D } := ⟨_, rfl⟩
 obtain ⟨W1, hW1⟩ : ∃ W1, W1 = (w.alloc (.deferred (some []))).alloc (.loop (lp .ready none)) := ⟨_, rfl⟩
 have b1 : Book D (lp .ready none) W1 := by
   subst hW1 hD
   refine ⟨?_, (Below.heap_alloc _ _ _ (by simp)).trans (World.alloc_heap_new w _)⟩
   have := World.alloc_heap_new (w.alloc (.deferred (some []))) (.loop (lp .ready none))
   rwa [World.size_alloc] at this
 have i1 : I [] W1 := by subst hW1; exact hI.1 _ _ _ (hI.1 _ _ _ h0)
 have k1 : Kp w W1 := by subst hW1; exact hKt (hKa _ _) (hKa _ _)
 refine ⟨D + 1, [{ target := .collected D, args := #[] }], W1, { target := .fn (.func gf) lb, args := #[.func (.yield (D + 1)) #[] #[]] }, W1, gf, #[.func (.yield (D + 1)) #[] #[]] ++ lb, W1, ?_, ?_, ?_, ?_, fun _ => h1, ?_⟩
 · rw [hW1, hlp, hD]; exact run_enterLoop_outer _ _ _ _ _
 · simp only [resolve, hg]
   simp [go_sem]
 · intro f' hf'; simp [Target.leads] at hf'; subst hf'; exact hFg
 · simp [invoke, go_sem, eg]
 have kept : ∀ {A B : World} {r : Loop}, G A B → Book D r A → Book D r B := fun hGAB hb => ⟨hG _ _ _ _ hGAB (by omega) hb.1 rfl, hG _ _ _ _ hGAB (by omega) hb.2 rfl⟩
 refine (hseq (D + 1) (fun pre W => I pre W ∧ Book D (lp .ready none) W) (fun pre W => ∃ c, Ix c pre W ∧ Book D (lp .done (some c)) W) W1 k1
   (fun p A B hJ hGAB => ⟨hIG p A B hJ.1 hGAB, kept hGAB hJ.2⟩)
   (fun p A B hJ hGAB => by obtain ⟨c, h2, h3⟩ := hJ; exact ⟨c, hIxG c p A B h2 hGAB, kept hGAB h3⟩) ?_ ⟨i1, b1⟩).mono ?_
 · rintro pre x W ⟨hi, hb⟩ hlen
   have hy := run_yield (P := P) (args := encs x) hb.1 (by rw [hlp]; exact hps x)
   rw [hlp] at hy
   refine ⟨fn, _, assign, body, hy, roundIn_of_wpIn hfn (hassign _ x W _ ⟨_, run_beginRound hb.1 (by rw [hlp]), ?_⟩)⟩
   have hb2 : Book D { lp .ready none with state := .busy } (W.putObj (D + 1) (.loop { lp .ready none with state := .busy })) := hb.put _
   have kb : Kp W (W.putObj (D + 1) (.loop { lp .ready none with state := .busy })) := hKb _ _ _ (by omega)
   refine wpIn_mono (hbody _ pre x _ (hI.2 _ _ _ _ _ hi (by omega) hb.1 rfl) hlen) ?_
   have ended : ∀ (j : Option Code) (W3 : World), KeepsOthers (W.putObj (D + 1) (.loop { lp .ready none with state := .busy })) W3 →
      W3.heap[D + 1]? = some (.loop { lp .ready none with state := .busy }) ∧
      (Instr.endRound (D + 1) j).run P W3 = .ok (.bool j.isNone) (W3.putObj (D + 1) (.loop (lp (if j.isNone then .ready else .done) j))) ∧
      Book D (lp (if j.isNone then .ready else .done) j) (W3.putObj (D + 1) (.loop (lp (if j.isNone then .ready else .done) j))) := fun j W3 hk3 => by
     have h3 := hb2.keeps hk3
     have hr := run_endRound (P := P) j h3.1
     refine ⟨h3.1, ?_, h3.put _⟩
     rw [hlp] at hr ⊢
     exact hr
   have out : ∀ (c : Code) (W3 : World), KeepsOthers (W.putObj (D + 1) (.loop { lp .ready none with state := .busy })) W3 → Ix c (pre ++ [x]) W3 →
      ∃ v w4, (Instr.endRound (D + 1) (some c)).run P W3 = .ok v w4 ∧ ((Ending.returned v = .returned (.bool true) ∧ (I (pre ++ [x]) w4 ∧ Book D (lp .ready none) w4) ∧ Kp W w4) ∨ (Ending.returned v = .returned (.bool false) ∧ ∃ c, Ix c (pre ++ [x]) w4 ∧ Book D (lp .done (some c)) w4)) := fun c W3 hk3 hi3 => by
     obtain ⟨hl3, hr, h4⟩ := ended (some c) W3 hk3
     exact ⟨_, _, hr, .inr ⟨rfl, c, (hIx c).2 _ _ _ _ _ hi3 (by omega) hl3 rfl, h4⟩⟩
   rintro e a3 W3 hp
   cases e with
   | normal =>
     obtain ⟨hk3, hkp, hi3⟩ := hp
     obtain ⟨hl3, hr, h4⟩ := ended none W3 hk3
     exact ⟨_, _, hr, .inl ⟨rfl, ⟨hI.2 _ _ _ _ _ hi3 (by omega) hl3 rfl, h4⟩, hKt (hKt kb hkp) (hKb _ _ _ (by omega))⟩⟩
   | ret => exact out .ret W3 hp.1 hp.2
   | exit id => exact out (.exit id) W3 hp.1 hp.2
   | goto t => exact out (.goto t) W3 hp.1 hp.2
   | panic ch => exact hp.elim
   | outgrown => exact hp.elim
 · rintro e W2 ⟨⟨v, rfl⟩, (⟨xs, hS, hi, hb⟩ | ⟨pre, hSp, c, hi, hb⟩)⟩
   · have hr := run_endLoop (P := P) hb.1 (by rw [hlp]; simp)
     rw [hlp] at hr
     exact ⟨none, _, hr, hdone D xs _ (by omega) hS (hI.2 _ _ _ _ _ hi (by omega) hb.1 rfl) ((World.putObj_heap_other (by omega)).trans hb.2)⟩
   · have hr := run_endLoop (P := P) hb.1 (by rw [hlp]; simp)
     rw [hlp] at hr
     exact ⟨some c, _, hr, hstop D c pre _ (by omega) hSp ((hIx c).2 _ _ _ _ _ hi (by omega) hb.1 rfl) ((World.putObj_heap_other (by omega)).trans hb.2)⟩
end Go.Proofs.YtgcbfggoddkhnaaGreatDoor
namespace Go.Proofs.YtgcbfggoddkhnaaGreatDoor
open Go.RowKit Go.Shelf
attribute [local go_sem] Oper.semAt_some
theorem indexByte_one : ∀ (a b : List UInt8) (c : UInt8), c ∉ a → Lib.indexByte (a ++ c :: b) c = a.length
 | [], b, c, _ => by simp [Lib.indexByte]
 | x :: a, b, c, h => by
  have hx : ¬ x = c := fun e => h (by simp [e])
  have ih := indexByte_one a b c (fun e => h (by simp [e]))
  simp only [List.cons_append, Lib.indexByte]
  rw [if_neg (by simpa using hx), ih, if_neg (by simp)]
  simp
theorem indexByte_no : ∀ (a : List UInt8) (c : UInt8), c ∉ a → Lib.indexByte a c = -1
 | [], c, _ => by simp [Lib.indexByte]
 | x :: a, c, h => by
  have hx : ¬ x = c := fun e => h (by simp [e])
  have ih := indexByte_no a c (fun e => h (by simp [e]))
  simp only [Lib.indexByte]
  rw [if_neg (by simpa using hx), ih]
  simp
theorem slice_to {r : ByteArray} {a b : List UInt8} (h : r = str (a ++ b)) (W : World) : (Instr.slice 9 (.string r) none (some (.int .i64 (a.length : Int))) none).run Tryz.prog W = .ok (.string (str a)) W := by
 subst h
 rw [run_slice_string_h W 9 _ Tryz.underlying9 .i64 _ (by omega) (by rw [str_size, List.length_append]; omega)]
 congr 2
 apply ByteArray.ext
 simp [str, ByteArray.data_extract]
theorem slice_from {r : ByteArray} {a b : List UInt8} (h : r = str (a ++ 46 :: b)) (W : World) : (Instr.slice 9 (.string r) (some (.int .i64 ((a.length : Int) + 1))) none none).run Tryz.prog W = .ok (.string (str b)) W := by
 subst h
 rw [run_slice_string_l W 9 _ Tryz.underlying9 .i64 _ (by omega) (by rw [str_size]; simp; omega)]
 have e : ((a.length : Int) + 1).toNat = a.length + 1 := by omega
 rw [e]
 congr 2
 apply ByteArray.ext
 simp [str, ByteArray.data_extract, ByteArray.size]
 exact List.take_of_length_le (by omega)
def leftIn (W : World) (N : Nat) : Nat :=
 match W.cell? ⟨N, 0, none⟩ with
 | some (.string s) => s.size
 | _ => 0
theorem leftIn_eq {W : World} {N : Nat} {r : List UInt8} (h : Boxed W N 9 (.string (str r))) : leftIn W N = r.length := by
 unfold leftIn
 rw [h.cell]
 exact str_size r
def Vars (W : World) (N : Nat) (r : List UInt8) : Prop := Boxed W N 9 (.string (str r)) ∧ Boxed W (N + 1) 9 (.string ⟨#[46]⟩) ∧ Boxed W (N + 2) 3 (.int .i64 0)
def Trio (N : Nat) (W W' : World) : Prop := ∀ k, N ≤ k → k ≤ N + 2 → k < W.heap.size → W'.heap[k]? = W.heap[k]?
theorem Trio.trans {N : Nat} {A B C : World} (h : Trio N A B) (h' : Trio N B C) : Trio N A C := fun k h1 h2 h3 => by
 have e := h k h1 h2 h3
 refine (h' k h1 h2 ?_).trans e
 have : B.heap[k]? = some (A.heap[k]'h3) := by rw [e, Array.getElem?_eq_getElem h3]
 exact (Array.getElem?_eq_some_iff.1 this).1
theorem Vars.kept {W W' : World} {N : Nat} {r : List UInt8} (h : Vars W N r) (hk : Trio N W W') : Vars W' N r :=
 ⟨(hk N (by omega) (by omega) h.1.lt).trans h.1, (hk (N + 1) (by omega) (by omega) h.2.1.lt).trans h.2.1, (hk (N + 2) (by omega) (by omega) h.2.2.lt).trans h.2.2⟩
theorem Vars.set {W : World} {N : Nat} {r : List UInt8} (h : Vars W N r) (q : List UInt8) : Vars (W.setCell ⟨N, 0, none⟩ (.string (str q))) N q :=
 ⟨h.1.set _, h.2.1.other (by omega) _, h.2.2.other (by omega) _⟩
def Steps (N : Nat) (A B : World) : Prop := A.grownBy B (some N) ∧ A.drawn ≤ B.drawn
set_option maxRecDepth 100000 in
set_option maxHeartbeats 2000000 in
theorem split_in (n : Nat) (hn : 1 ≤ n) (l N : Nat) (s0 : List UInt8) (hs : s0.length ≤ 140737488351232) (J Jx : List (List UInt8) → World → Prop) (hJ : ∀ p A B, J p A → Steps N A B → J p B)
  (hY : ∀ pre x W1, J pre W1 → x.length ≤ 140737488351232 → YieldAt Fence.wide (n - 1) Tryz.prog l #[.string (str x)] W1 fun e W' =>
    (e = .returned (.bool true) ∧ J (pre ++ [x]) W' ∧ Trio N W1 W') ∨ (e = .returned (.bool false) ∧ Jx (pre ++ [x]) W'))
  (W : World) (hV : Vars W N s0) (h0 : J [] W) :
  CallsIn Fence.wide n Tryz.prog 183 #[.func (.yield l) #[] #[], .pointer (some ⟨N + 1, 0, none⟩), .pointer (some ⟨N, 0, none⟩), .pointer (some ⟨N + 2, 0, none⟩)] W fun e W' => (∃ v, e = .returned v) ∧
    ((∃ ys, ys = split s0 ∧ J ys W') ∨ (∃ pre, pre <+: split s0 ∧ Jx pre W')) := by
 refine callsIn_of_wp Tryz.func183 rfl trivial ?_ rfl
 simp only [Tryz.ntmps183, List.size_toArray, List.length_cons, List.length_nil, Nat.reduceAdd, Nat.reduceSub, Array.replicate_succ, Array.replicate_zero, List.push_toArray, List.append_toArray, List.nil_append, List.cons_append]
 have c2 := hV.2.1.cell
 have HV := Lib.hid hV
 have HJ0 := Lib.hid h0
 have HJ := Lib.hid hJ
 have HY := Lib.hid hY
 clear hV h0 hJ hY
 gi_wp2
 gi_loopw [7] (fun _ wr => ∃ pre r, split s0 = pre ++ split r ∧ r.length ≤ s0.length ∧ Vars wr N r ∧ J pre wr) (fun _ wr => leftIn wr N)
 case atStart => exact ⟨[], s0, rfl, Nat.le_refl _, HV.out, HJ0.out⟩
 case round =>
  obtain ⟨pre, r, hx, hr, hv, hj⟩ := hrel
  have c0 := hv.1.cell
  have f0 := hv.1.frozen
  have c1 := hv.2.1.cell
  have c3 := hv.2.2.cell
  have HX := Lib.hid hx
  have HVr := Lib.hid hv
  by_cases hd : 46 ∈ r
  · obtain ⟨a, b, hab, hna⟩ := part_at r 46 hd
    have hi := indexByte_one a b 46 hna
    have H67 := Lib.hid (Tryz.strings_Index_one (str r) 46 wr)
    rw [str_list, hab, hi] at H67
    obtain ⟨q, hq⟩ : ∃ q, q = str (a ++ 46 :: b) := ⟨_, rfl⟩
    have s1 := slice_to (a := a) (b := 46 :: b) hq
    have s2 := slice_from (a := a) (b := b) hq
    have hal : a.length ≤ 140737488351232 := by rw [hab, List.length_append] at hr; omega
    have HB : Hid (b.length < r.length ∧ b.length ≤ s0.length) := by rw [hab] at hr ⊢; simp at hr ⊢; unfold Hid; omega
    have HS : Hid (split s0 = (pre ++ [a]) ++ split b) := by rw [Hid, hx, hab, split_some a b hna]; simp
    have HL := Lib.hid (leftIn_eq hv.1)
    obtain ⟨fn, tmps, assign, body, hy, hR⟩ := HY.out pre a wr hj hal
    have HR := Lib.hid hR
    have HQ : Hid (str r = q) := by rw [Hid, hab, hq]
    rw [hab, ← hq] at c0
    rw [← hq] at H67
    clear hab hx hr hv hd hi hna hR hq
    gi_wp2_with (refine ⟨trivial, ?_⟩; gi_at_call 185; refine (callsIn_wide.2 H67.out).mono ?_; rintro e w' ⟨rfl, rfl⟩)
    refine HR.out.mono ?_
    rintro e W3 (⟨rfl, hJ3, hk3⟩ | ⟨rfl, hJx3⟩)
    · have V3 := Lib.hid (HVr.out.kept hk3)
      have d0 := V3.out.1.cell
      rw [HQ.out] at d0
      have e0 := V3.out.1.frozen
      have d1 := V3.out.2.1.cell
      clear c0 f0 c1 c3 hy hk3
      gi_wp2
      go_roundw
      case rel => exact ⟨pre ++ [a], b, HS.out, HB.out.2, V3.out.set b, HJ.out _ _ _ hJ3 ⟨grownBy_setCell' _ _ _, Nat.le_refl _⟩⟩
      case measure => rw [leftIn_eq (V3.out.set b).1, HL.out]; exact HB.out.1
    · gi_wp2
      refine bodyPost_ret (results_none rfl _ _ _) rfl ?_
      exact ⟨⟨_, rfl⟩, .inr ⟨pre ++ [a], ⟨split b, HS.out.symm⟩, hJx3⟩⟩
  · have hi := indexByte_no r 46 hd
    have H67 := Lib.hid (Tryz.strings_Index_one (str r) 46 wr)
    rw [str_list, hi] at H67
    have HS : Hid (split s0 = pre ++ [r]) := by rw [Hid, hx, split_none r hd]
    obtain ⟨fn, tmps, assign, body, hy, hR⟩ := HY.out pre r wr hj (by omega)
    have HR := Lib.hid hR
    clear hx hr hv hd hi hR
    gi_wp2_with (refine ⟨trivial, ?_⟩; gi_at_call 185; refine (callsIn_wide.2 H67.out).mono ?_; rintro e w' ⟨rfl, rfl⟩)
    refine HR.out.mono ?_
    rintro e W3 (⟨rfl, hJ3, hk3⟩ | ⟨rfl, hJx3⟩)
    · gi_wp2
      go_end0
      exact ⟨⟨_, rfl⟩, .inl ⟨pre ++ [r], HS.out.symm, hJ3⟩⟩
    · gi_wp2
      go_end0
      exact ⟨⟨_, rfl⟩, .inr ⟨pre ++ [r], by rw [HS.out]; exact List.prefix_refl _, hJx3⟩⟩
theorem split_gives (n : Nat) (hn : 1 ≤ n) (N : Nat) (s0 : List UInt8) (hs : s0.length ≤ 140737488351232) (w : World) (hV : Vars w N s0) :
  Gives Fence.wide n Tryz.prog 183 #[.pointer (some ⟨N + 1, 0, none⟩), .pointer (some ⟨N, 0, none⟩), .pointer (some ⟨N + 2, 0, none⟩)] (fun x : List UInt8 => #[Value.string (str x)]) (Trio N) (Steps N)
   (fun ys => ys = split s0) (fun pre => pre <+: split s0) (fun x => x.length ≤ 140737488351232) w :=
 fun l J Jx W hk hJ _ hY h0 => split_in n hn l N s0 hs J Jx hJ hY W (hV.kept hk) h0
theorem splitSeq45_any (s : ByteArray) (w : World) : Calls Tryz.prog 158 #[.string s, .string ⟨#[46]⟩, .int .i64 0] w fun e w' =>
  e = .returned (.func (.func 183) #[] #[.pointer (some ⟨w.heap.size + 1, 0, none⟩), .pointer (some ⟨w.heap.size, 0, none⟩), .pointer (some ⟨w.heap.size + 2, 0, none⟩)]) ∧
  w' = ((w.alloc (.cells #[.string s] 9)).alloc (.cells #[.string ⟨#[46]⟩] 9)).alloc (.cells #[.int .i64 0] 3) := by
 go_enter Tryz.func158, Tryz.ntmps158
 go_wp2_with fail
 go_ret
 exact ⟨rfl, rfl⟩
theorem splitSeq_any (s : ByteArray) (w : World) : Calls Tryz.prog 121 #[.string s, .string ⟨#[46]⟩] w fun e w' =>
  e = .returned (.func (.func 183) #[] #[.pointer (some ⟨w.heap.size + 1, 0, none⟩), .pointer (some ⟨w.heap.size, 0, none⟩), .pointer (some ⟨w.heap.size + 2, 0, none⟩)]) ∧
  w' = ((w.alloc (.cells #[.string s] 9)).alloc (.cells #[.string ⟨#[46]⟩] 9)).alloc (.cells #[.int .i64 0] 3) := by
 go_enter Tryz.func121, Tryz.ntmps121
 go_wp2_with fail
 refine (splitSeq45_any s w).mono ?_
 rintro e w' ⟨rfl, rfl⟩
 go_wp2_with fail
 go_ret
 exact ⟨rfl, rfl⟩
end Go.Proofs.YtgcbfggoddkhnaaGreatDoor
