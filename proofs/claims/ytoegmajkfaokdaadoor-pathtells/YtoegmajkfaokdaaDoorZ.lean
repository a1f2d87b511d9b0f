/- The mathematics of paths: texts, what a text is, the order, prefixes, bytes. -/
import Derived.Test.YtoegmajkfaokdaaDoorA
import Derived.Test.YtoegmajkfaokdaaDoorL
import Derived.Test.YtoegmajkfaokdaaDoorTa
import Derived.Lib.Join
import Derived.Lib.ItoaLen
namespace Go.Proofs.YtoegmajkfaokdaaDoor
open Go.RowKit

def ints (p : List Nat) : List Int := p.map fun u : Nat => (u : Int)
theorem ints_length (p : List Nat) : (ints p).length = p.length := by simp [ints]
/-- Numbers of 64 bits. -/
def WideZ (zs : List Int) : Prop := ∀ z ∈ zs, -9223372036854775808 ≤ z ∧ z ≤ 9223372036854775807
/-- Is it a path? -/
def PathOk (zs : List Int) : Prop := zs.length ≤ 6 ∧ ∀ z ∈ zs, 0 ≤ z ∧ z ≤ 1048576
instance (zs : List Int) : Decidable (PathOk zs) := inferInstanceAs (Decidable (_ ∧ _))
theorem PathOk.wide {zs : List Int} (h : PathOk zs) : WideZ zs := fun z hz => by
  have := h.2 z hz
  omega
theorem WideZ.take {zs : List Int} (h : WideZ zs) (n : Nat) : WideZ (zs.take n) := fun z hz => h z (List.mem_of_mem_take hz)

/-- The text of numbers. -/
def zText (zs : List Int) : List UInt8 := Lib.join (zs.map Lib.itoa) [46]
theorem join_dot : ∀ ps : List (List UInt8), Lib.join ps [46] = joinDot ps
  | [] => rfl
  | [x] => Lib.join_one x _
  | x :: y :: r => by
    have ih := join_dot (y :: r)
    rw [Lib.join_cons] at ih ⊢
    simp only [joinDot]
    rw [← ih]
    simp [Lib.joinTail]
theorem zText_ints (p : List Nat) : zText (ints p) = pathText p := by
  unfold zText ints pathText
  rw [join_dot, List.map_map]
  exact congrArg joinDot (List.map_congr_left fun u _ => itoa_nat u)
theorem ok_nats {zs : List Int} (h : PathOk zs) : ∃ p, FitsP p ∧ zs = ints p := by
  refine ⟨zs.map Int.toNat, ⟨by simpa using h.1, fun u hu => ?_⟩, ?_⟩
  · obtain ⟨z, hz, rfl⟩ := List.mem_map.1 hu
    have := h.2 z hz
    omega
  · unfold ints
    rw [List.map_map]
    refine (List.map_id zs).symm.trans (List.map_congr_left fun z hz => ?_)
    have := h.2 z hz
    simp only [Function.comp_def, id]
    omega
theorem ints_ok {p : List Nat} (h : FitsP p) : PathOk (ints p) := by
  refine ⟨by rw [ints_length]; exact h.1, fun z hz => ?_⟩
  obtain ⟨u, hu, rfl⟩ := List.mem_map.1 hz
  have := h.2 u hu
  omega

/-- The path that a text is. -/
def IsPath (s : List UInt8) (zs : List Int) : Prop := PathOk zs ∧ s = zText zs
theorem IsPath.one {s : List UInt8} {a b : List Int} (h : IsPath s a) (h' : IsPath s b) : a = b := by
  obtain ⟨p, hp, rfl⟩ := ok_nats h.1
  obtain ⟨q, hq, rfl⟩ := ok_nats h'.1
  have := h.2.symm.trans h'.2
  rw [zText_ints, zText_ints] at this
  rw [path_inj this]
theorem isPath_nil : IsPath [] [] := ⟨⟨by simp, by simp⟩, rfl⟩

/-- Each part is that number. -/
def Each (f : List UInt8 → Option Int) (ps : List (List UInt8)) (zs : List Int) : Prop := ps.map f = zs.map some
theorem each_nil (f : List UInt8 → Option Int) : Each f [] [] := rfl
theorem Each.snoc {f : List UInt8 → Option Int} {ps : List (List UInt8)} {zs : List Int} (h : Each f ps zs) {t : List UInt8} {z : Int} (ht : f t = some z) : Each f (ps ++ [t]) (zs ++ [z]) := by
  unfold Each at h ⊢
  rw [List.map_append, List.map_append, h]
  simp [ht]
theorem Each.length {f : List UInt8 → Option Int} {ps : List (List UInt8)} {zs : List Int} (h : Each f ps zs) : ps.length = zs.length := by
  have := congrArg List.length h
  simpa using this
def Right1 (f : List UInt8 → Option Int) : Prop := ∀ u : Nat, u ≤ 1048576 → f (Lib.decDigits u) = some (u : Int)
theorem each_ints {f : List UInt8 → Option Int} (hf : Right1 f) {p : List Nat} (hp : FitsP p) {zs : List Int} (h : Each f (p.map Lib.decDigits) zs) : zs = ints p := by
  unfold Each at h
  have e : (p.map Lib.decDigits).map f = (ints p).map some := by
    unfold ints
    rw [List.map_map, List.map_map]
    exact List.map_congr_left fun u hu => hf u (hp.2 u hu)
  rw [e] at h
  exact ((List.map_inj_right (fun _ _ h => Option.some.inj h)).1 h).symm
theorem isPath_parts {s : List UInt8} {us : List Int} (h : IsPath s us) (hs : s ≠ []) : ∃ p, FitsP p ∧ us = ints p ∧ split s = p.map Lib.decDigits := by
  obtain ⟨p, hp, rfl⟩ := ok_nats h.1
  have h2 := h.2
  rw [zText_ints] at h2
  have hne : p ≠ [] := fun e => by subst e; exact hs h2
  exact ⟨p, hp, rfl, by rw [h2, split_path hne]⟩
/-- All parts are numbers: the only path it can be. -/
theorem parse_one {f : List UInt8 → Option Int} (hf : Right1 f) {s : List UInt8} (hs : s ≠ []) {zs us : List Int} (h : Each f (split s) zs) (hu : IsPath s us) : us = zs := by
  obtain ⟨p, hp, rfl, he⟩ := isPath_parts hu hs
  rw [he] at h
  exact (each_ints hf hp h).symm
theorem parse_no {f : List UInt8 → Option Int} (hf : Right1 f) {s : List UInt8} (hs : s ≠ []) {zs : List Int} (h : Each f (split s) zs) (hn : ¬ (PathOk zs ∧ zText zs = s)) : ∀ us, ¬ IsPath s us := fun us hu => by
  have e := parse_one hf hs h hu
  subst e
  exact hn ⟨hu.1, hu.2.symm⟩
theorem prefix_snoc {pre : List (List UInt8)} {x : List UInt8} {us : List Nat} (h : pre ++ [x] <+: us.map Lib.decDigits) : (∃ u ∈ us, x = Lib.decDigits u) ∧ pre.length < us.length := by
  obtain ⟨r, hr⟩ := h
  have hx : x ∈ us.map Lib.decDigits := by rw [← hr]; simp
  obtain ⟨u, hu, rfl⟩ := List.mem_map.1 hx
  have := congrArg List.length hr
  simp at this
  exact ⟨⟨u, hu, rfl⟩, by omega⟩
/-- A part that is no number, or one too many: it is no path. -/
theorem parse_stop {f : List UInt8 → Option Int} (hf : Right1 f) {s : List UInt8} (hs : s ≠ []) {pre : List (List UInt8)} {x : List UInt8} (h : pre ++ [x] <+: split s) (hx : f x = none ∨ pre.length = 6) : ∀ us, ¬ IsPath s us := fun us hu => by
  obtain ⟨p, hp, rfl, he⟩ := isPath_parts hu hs
  rw [he] at h
  obtain ⟨⟨u, hu, rfl⟩, hl⟩ := prefix_snoc h
  rcases hx with hx | hx
  · rw [hf u (hp.2 u hu)] at hx
    cases hx
  · have := hp.1
    omega

/-- The number that Atoi reads. -/
def atoiOf (t : List UInt8) : Option Int :=
  match Lib.atoiAll t with
  | .ok v => some v
  | _ => none
theorem atoiOf_right : Right1 atoiOf := fun u hu => by
  unfold atoiOf
  rw [atoi_dec hu]
theorem atoiOf_ok {t : List UInt8} {v : Int} (h : Lib.atoiAll t = .ok v) : atoiOf t = some v := by
  unfold atoiOf
  rw [h]
theorem atoiOf_no {t : List UInt8} (h : ∀ v, Lib.atoiAll t ≠ .ok v) : atoiOf t = none := by
  unfold atoiOf
  split
  · exact absurd ‹_› (h _)
  · rfl

/-- The number that the reference reads. -/
def decOf (t : List UInt8) : Option Int := (Lib.decFrom 0 t).map fun n : Nat => (n : Int)
theorem decOf_right : Right1 decOf := fun u _ => by
  unfold decOf
  rw [dec_from]
  rfl
theorem split_head : ∀ (a r : List UInt8), 46 ∉ a → ∃ t ts, split (a ++ r) = (a ++ t) :: ts
  | [], r, _ => by
    cases h : split r with
    | nil => exact absurd h (split_ne r)
    | cons t ts => exact ⟨t, ts, by simp [h]⟩
  | c :: a, r, h => by
    have hc : c ≠ 46 := fun e => h (by simp [e])
    obtain ⟨t, ts, ih⟩ := split_head a r (fun e => h (by simp [e]))
    exact ⟨t, ts, by simp only [List.cons_append, split, if_neg hc, ih]⟩
/-- A sign in a part that no numeral has. -/
theorem ref_stop {s : List UInt8} (hs : s ≠ []) {ps : List (List UInt8)} {cur rest : List UInt8} {x : UInt8} (h : split s = ps ++ split (cur ++ x :: rest)) (hc : 46 ∉ cur) (hx : x ≠ 46) (hno : ¬ isDig x ∨ 7 ≤ cur.length) : ∀ us, ¬ IsPath s us := fun us hu => by
  obtain ⟨p, hp, rfl, he⟩ := isPath_parts hu hs
  obtain ⟨t, ts, ht⟩ := split_head (cur ++ [x]) rest (by simp; exact ⟨hc, fun e => hx e.symm⟩)
  rw [List.append_assoc] at ht
  simp only [List.singleton_append] at ht
  rw [he, ht] at h
  have hm : (cur ++ [x] ++ t) ∈ p.map Lib.decDigits := by rw [h]; simp
  obtain ⟨u, hu, hd⟩ := List.mem_map.1 hm
  rcases hno with hno | hno
  · exact hno (dec_dig u x (by rw [hd]; simp))
  · have h7 := dec_len7 (hp.2 u hu)
    rw [hd] at h7
    simp at h7
    omega

theorem zText_nil : zText [] = [] := rfl
theorem zText_one (z : Int) : zText [z] = Lib.itoa z := Lib.join_one _ _
theorem zText_snoc {zs : List Int} (h : zs ≠ []) (z : Int) : zText (zs ++ [z]) = zText zs ++ [46] ++ Lib.itoa z := by
  cases zs with
  | nil => exact absurd rfl h
  | cons a r =>
    unfold zText
    rw [List.cons_append, List.map_cons, List.map_cons, Lib.join_cons, Lib.join_cons]
    simp [Lib.joinTail]
theorem lens_le (M : Nat) : ∀ xs : List (List UInt8), (∀ x ∈ xs, x.length ≤ M) → Lib.lens xs ≤ xs.length * M
  | [], _ => by simp [Lib.lens]
  | x :: r, h => by
    have h1 := lens_le M r fun y hy => h y (List.mem_cons_of_mem _ hy)
    have h2 := h x (by simp)
    have e : Lib.lens (x :: r) = x.length + Lib.lens r := by simp [Lib.lens]
    rw [e, List.length_cons, Nat.succ_mul]
    omega
theorem zText_len {zs : List Int} (hw : WideZ zs) : (zText zs).length ≤ 22 * zs.length := by
  cases zs with
  | nil => simp [zText, Lib.join_nil]
  | cons x r =>
    unfold zText
    rw [List.map_cons, Lib.join_length]
    have h1 := lens_le 21 (Lib.itoa x :: r.map Lib.itoa) (fun y hy => by
      rw [← List.map_cons] at hy
      obtain ⟨e, he, rfl⟩ := List.mem_map.1 hy
      exact Lib.itoa_length_le e (hw e he).1 (hw e he).2)
    simp at h1 ⊢
    omega

/-- The order of numbers. -/
def cmpI (a b : Int) : Int := Lib.compareInt a b
theorem tot_cmpI : Tot cmpI where
  one x y := by
    unfold cmpI Lib.compareInt
    split
    · exact .inl rfl
    · split
      · exact .inr (.inr rfl)
      · exact .inr (.inl rfl)
  neg x y := by
    unfold cmpI Lib.compareInt
    by_cases h1 : x < y
    · rw [if_pos h1, if_neg (by omega), if_pos (by omega)]
      rfl
    · by_cases h2 : y < x
      · rw [if_pos h2, if_neg h1, if_pos (by omega)]
      · rw [if_neg h2, if_neg (by omega), if_neg h1, if_neg (by omega)]
        rfl
  eq x y := by
    unfold cmpI Lib.compareInt
    constructor
    · intro h
      split at h
      · omega
      · split at h
        · omega
        · omega
    · rintro rfl
      rw [if_neg (by omega), if_neg (by omega)]
  trans x y z := by
    unfold cmpI Lib.compareInt
    intro h1 h2
    split at h1
    · split at h2
      · rw [if_pos (by omega)]; omega
      · split at h2
        · omega
        · rw [if_pos (by omega)]; omega
    · split at h1
      · omega
      · split at h2
        · rw [if_pos (by omega)]; omega
        · split at h2
          · omega
          · rw [if_neg (by omega), if_neg (by omega)]; omega
/-- The order of paths. -/
def cmpZ (p q : List Int) : Int := lex cmpI p q
theorem tot_cmpZ : Tot cmpZ := tot_cmpI.lex

/-- Is the second one a proper prefix of the first? -/
def BelowP (p q : List Int) : Prop := q.length < p.length ∧ p.take q.length = q
instance (p q : List Int) : Decidable (BelowP p q) := inferInstanceAs (Decidable (_ ∧ _))
theorem belowP_iff {p q : List Int} : BelowP p q ↔ ∃ k, k < p.length ∧ p.take k = q := by
  constructor
  · intro h
    exact ⟨q.length, h.1, h.2⟩
  · rintro ⟨k, hk, rfl⟩
    have e : (p.take k).length = k := by simp; omega
    exact ⟨by rw [e]; exact hk, by rw [e]⟩
theorem belowP_take {p : List Int} {k : Nat} (h : k < p.length) : BelowP p (p.take k) := belowP_iff.2 ⟨k, h, rfl⟩
theorem belowP_snoc (p : List Int) (n : Int) : BelowP (p ++ [n]) p := ⟨by simp, by simp⟩
theorem cmp_prefix : ∀ (q r : List Int), r ≠ [] → cmpZ q (q ++ r) = -1
  | [], r, h => by
    cases r with
    | nil => exact absurd rfl h
    | cons a r => rfl
  | a :: q, r, h => by
    have ih := cmp_prefix q r h
    unfold cmpZ at ih ⊢
    rw [List.cons_append]
    show (if cmpI a a = 0 then _ else _) = _
    rw [if_pos (tot_cmpI.refl a)]
    exact ih
theorem belowP_cmp {p q : List Int} (h : BelowP p q) : cmpZ q p = -1 := by
  have e : p = q ++ p.drop q.length := by rw [← List.take_append_drop q.length p, h.2]; simp
  rw [e]
  refine cmp_prefix q _ fun e => ?_
  rw [List.drop_eq_nil_iff] at e
  have := h.1
  omega
theorem belowP_len {p q : List Int} (h : BelowP p q) : q.length < p.length := h.1

/-- The number that bytes begin with, and the rest. -/
noncomputable def numAt (l : List Nat) (most : Int) : Option (Nat × List Nat) :=
  open Classical in if h : ∃ x : Nat × List Nat, l = Tp.enc x.1 ++ x.2 ∧ (x.1 : Int) ≤ most ∧ x.1 < 9223372036854775808 then some h.choose else none
theorem numAt_some {l : List Nat} {most : Int} {n : Nat} {r : List Nat} (h : l = Tp.enc n ++ r) (h1 : (n : Int) ≤ most) (h2 : n < 9223372036854775808) : numAt l most = some (n, r) := by
  have hx : ∃ x : Nat × List Nat, l = Tp.enc x.1 ++ x.2 ∧ (x.1 : Int) ≤ most ∧ x.1 < 9223372036854775808 := ⟨(n, r), h, h1, h2⟩
  unfold numAt
  rw [dif_pos hx]
  have hc := hx.choose_spec
  have := Tp.enc_prefix (hc.1.symm.trans h)
  congr 1
  exact Prod.ext this.1 this.2
theorem numAt_none {l : List Nat} {most : Int} (h : Tp.NoNum l most) : numAt l most = none := by
  unfold numAt
  rw [dif_neg]
  rintro ⟨⟨n, r⟩, h1, h2, h3⟩
  have := h n r h1 h3
  simp at h2
  omega
/-- Numbers read, bytes left, no fault so far. -/
abbrev RdSt : Type := List Int × List Nat × Bool
noncomputable def rdStep (s : RdSt) : RdSt :=
  if s.2.2 then
    match numAt s.2.1 1048576 with
    | some x => (s.1 ++ [(x.1 : Int)], x.2, true)
    | none => (s.1 ++ [0], s.2.1, false)
  else (s.1 ++ [0], s.2.1, false)
noncomputable def rd : Nat → RdSt → RdSt
  | 0, s => s
  | m + 1, s => rdStep (rd m s)
noncomputable def rdAll (l : List Nat) : RdSt :=
  match numAt l 6 with
  | some x => rd x.1 ([], x.2, true)
  | none => ([], l, false)
theorem rd_length (s : RdSt) (hs : s.1 = []) : ∀ m, (rd m s).1.length = m
  | 0 => by simp [rd, hs]
  | m + 1 => by
    have ih := rd_length s hs m
    simp only [rd, rdStep]
    split
    · split <;> simp [ih]
    · simp [ih]

/-- The bytes of a number on a pen; of a list. -/
def encZ (z : Int) : List Nat := if 0 ≤ z ∧ z ≤ 4611686018427387903 then Tp.enc z.toNat else []
def zBytes (zs : List Int) : List Nat := Tp.enc zs.length ++ zs.flatMap encZ
theorem encZ_len (z : Int) : (encZ z).length ≤ 9 := by
  unfold encZ
  split
  · exact Tp.enc_nine (by omega)
  · simp
theorem flatZ_len : ∀ zs : List Int, (zs.flatMap encZ).length ≤ 9 * zs.length
  | [] => by simp
  | z :: r => by
    have := flatZ_len r
    have := encZ_len z
    rw [List.flatMap_cons, List.length_append, List.length_cons]
    omega
theorem sml_append {a b : List Nat} (ha : Tp.Sml a) (hb : Tp.Sml b) : Tp.Sml (a ++ b) := fun c hc => by
  rcases List.mem_append.1 hc with h | h
  · exact ha c h
  · exact hb c h
theorem sml_encZ (z : Int) : Tp.Sml (encZ z) := by
  unfold encZ
  split
  · exact Tp.enc_sml _
  · intro c hc; simp at hc
theorem sml_flatZ (zs : List Int) : Tp.Sml (zs.flatMap encZ) := fun c hc => by
  obtain ⟨z, _, hz⟩ := List.mem_flatMap.1 hc
  exact sml_encZ z c hz
theorem zBytes_sml (zs : List Int) : Tp.Sml (zBytes zs) := sml_append (Tp.enc_sml _) (sml_flatZ zs)
theorem zBytes_len {zs : List Int} (h : zs.length ≤ 100000) : (zBytes zs).length ≤ 9 + 9 * zs.length := by
  have h1 := flatZ_len zs
  have h2 : (Tp.enc zs.length).length ≤ 9 := Tp.enc_nine (by omega)
  unfold zBytes
  rw [List.length_append]
  omega
theorem encZ_ok {z : Int} (h : 0 ≤ z ∧ z ≤ 1048576) : encZ z = Tp.enc z.toNat := by
  unfold encZ
  rw [if_pos ⟨h.1, by omega⟩]
theorem rd_put {zs : List Int} (h : PathOk zs) (r : List Nat) : ∀ m, m ≤ zs.length → rd m ([], zs.flatMap encZ ++ r, true) = (zs.take m, (zs.drop m).flatMap encZ ++ r, true)
  | 0, _ => by simp [rd]
  | m + 1, hm => by
    have ih := rd_put h r m (by omega)
    have hlt : m < zs.length := by omega
    have e : zs.drop m = zs[m] :: zs.drop (m + 1) := List.drop_eq_getElem_cons hlt
    have hz := h.2 zs[m] (List.getElem_mem hlt)
    simp only [rd, ih, rdStep]
    have hn : numAt ((zs.drop m).flatMap encZ ++ r) 1048576 = some (zs[m].toNat, (zs.drop (m + 1)).flatMap encZ ++ r) := by
      refine numAt_some ?_ (by omega) (by omega)
      rw [e, List.flatMap_cons, encZ_ok hz, List.append_assoc]
    have ez : ((zs[m].toNat : Nat) : Int) = zs[m] := by omega
    rw [hn, List.take_add_one, List.getElem?_eq_getElem hlt]
    simp [ez]
theorem rdAll_put {zs : List Int} (h : PathOk zs) : rdAll (zBytes zs) = (zs, [], true) := by
  have hn : numAt (zBytes zs) 6 = some (zs.length, zs.flatMap encZ ++ []) := numAt_some (by simp [zBytes]) (by have := h.1; omega) (by have := h.1; omega)
  unfold rdAll
  rw [hn]
  simp only
  rw [rd_put h [] zs.length (Nat.le_refl _)]
  simp
end Go.Proofs.YtoegmajkfaokdaaDoor
