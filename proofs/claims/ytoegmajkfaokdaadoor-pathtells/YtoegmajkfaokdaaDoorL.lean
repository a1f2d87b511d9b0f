/- The mathematics of the order: three-way comparisons that order totally; lists, pairs, categories, texts. -/
import Derived.Test.YtoegmajkfaokdaaDoorA
import Derived.Lib.Small
namespace Go.Proofs.YtoegmajkfaokdaaDoor
open Go.Lib

/-- A three-way comparison that orders totally. -/
structure Tot {α : Type} (c : α → α → Int) : Prop where
  one : ∀ x y, c x y = -1 ∨ c x y = 0 ∨ c x y = 1
  neg : ∀ x y, c y x = -c x y
  eq : ∀ x y, c x y = 0 ↔ x = y
  trans : ∀ x y z, c x y ≤ 0 → c y z ≤ 0 → c x z ≤ 0

theorem Tot.refl {α : Type} {c : α → α → Int} (h : Tot c) (x : α) : c x x = 0 := (h.eq x x).2 rfl
theorem Tot.lt_trans {α : Type} {c : α → α → Int} (h : Tot c) {x y z : α} (h1 : c x y = -1) (h2 : c y z = -1) : c x z = -1 := by
  have h3 := h.trans x y z (by omega) (by omega)
  rcases h.one x z with h4 | h4 | h4
  · exact h4
  · have e := (h.eq x z).1 h4
    subst e
    have := h.neg x y
    omega
  · omega

def lex {α : Type} (c : α → α → Int) : List α → List α → Int
  | [], [] => 0
  | [], _ :: _ => -1
  | _ :: _, [] => 1
  | a :: as, b :: bs => if c a b = 0 then lex c as bs else c a b

theorem Tot.lex {α : Type} {c : α → α → Int} (h : Tot c) : Tot (lex c) where
  one := by
    intro x
    induction x with
    | nil => intro y; cases y <;> simp [YtoegmajkfaokdaaDoor.lex]
    | cons a as ih =>
      intro y
      cases y with
      | nil => simp [YtoegmajkfaokdaaDoor.lex]
      | cons b bs =>
        simp only [YtoegmajkfaokdaaDoor.lex]
        split
        · exact ih bs
        · exact h.one a b
  neg := by
    intro x
    induction x with
    | nil => intro y; cases y <;> simp [YtoegmajkfaokdaaDoor.lex]
    | cons a as ih =>
      intro y
      cases y with
      | nil => simp [YtoegmajkfaokdaaDoor.lex]
      | cons b bs =>
        have hn := h.neg a b
        simp only [YtoegmajkfaokdaaDoor.lex]
        by_cases h0 : c a b = 0
        · rw [if_pos h0, if_pos (by omega)]
          exact ih bs
        · rw [if_neg h0, if_neg (by omega)]
          exact hn
  eq := by
    intro x
    induction x with
    | nil => intro y; cases y <;> simp [YtoegmajkfaokdaaDoor.lex]
    | cons a as ih =>
      intro y
      cases y with
      | nil => simp [YtoegmajkfaokdaaDoor.lex]
      | cons b bs =>
        simp only [YtoegmajkfaokdaaDoor.lex, List.cons.injEq]
        by_cases h0 : c a b = 0
        · rw [if_pos h0, ih bs]
          exact ⟨fun e => ⟨(h.eq a b).1 h0, e⟩, fun e => e.2⟩
        · rw [if_neg h0]
          exact ⟨fun e => absurd e h0, fun e => absurd ((h.eq a b).2 e.1) h0⟩
  trans := by
    intro x
    induction x with
    | nil => intro y z _ h2; cases z <;> simp [YtoegmajkfaokdaaDoor.lex]
    | cons a as ih =>
      intro y z h1 h2
      cases y with
      | nil => simp [YtoegmajkfaokdaaDoor.lex] at h1
      | cons b bs =>
        cases z with
        | nil => simp [YtoegmajkfaokdaaDoor.lex] at h2
        | cons d ds =>
          simp only [YtoegmajkfaokdaaDoor.lex] at h1 h2 ⊢
          by_cases e1 : c a b = 0
          · have := (h.eq a b).1 e1
            subst this
            rw [if_pos e1] at h1
            by_cases e2 : c a d = 0
            · rw [if_pos e2] at h2 ⊢
              exact ih _ _ h1 h2
            · rw [if_neg e2] at h2 ⊢
              exact h2
          · rw [if_neg e1] at h1
            have l1 : c a b = -1 := by rcases h.one a b with h | h | h <;> omega
            by_cases e2 : c b d = 0
            · have := (h.eq b d).1 e2
              subst this
              rw [if_neg e1]
              exact h1
            · rw [if_neg e2] at h2
              have l2 : c b d = -1 := by rcases h.one b d with h | h | h <;> omega
              have l3 := h.lt_trans l1 l2
              rw [if_neg (by omega)]
              omega

theorem lex_drop {α : Type} {c : α → α → Int} : ∀ (m : Nat) (p q : List α), (∀ k x y, k < m → p[k]? = some x → q[k]? = some y → c x y = 0) → m ≤ p.length → m ≤ q.length → lex c (p.drop m) (q.drop m) = lex c p q
  | 0, _, _, _, _, _ => rfl
  | m + 1, [], _, _, hp, _ => by simp at hp
  | m + 1, _ :: _, [], _, _, hq => by simp at hq
  | m + 1, a :: p, b :: q, h, hp, hq => by
    have h0 := h 0 a b (by omega) rfl rfl
    simp only [List.drop_succ_cons, lex]
    rw [if_pos h0]
    exact lex_drop m p q (fun k x y hk hx hy => h (k + 1) x y (by omega) hx hy) (by simpa using hp) (by simpa using hq)

def cmpN (a b : Nat) : Int := compareInt (a : Int) (b : Int)
theorem tot_cmpN : Tot cmpN where
  one x y := by
    unfold cmpN compareInt
    split
    · exact .inl rfl
    · split
      · exact .inr (.inr rfl)
      · exact .inr (.inl rfl)
  neg x y := by
    unfold cmpN compareInt
    by_cases h1 : (x : Int) < y
    · rw [if_pos h1, if_neg (by omega), if_pos (by omega)]
      rfl
    · by_cases h2 : (y : Int) < x
      · rw [if_pos h2, if_neg h1, if_pos (by omega)]
      · rw [if_neg h2, if_neg (by omega), if_neg h1, if_neg (by omega)]
        rfl
  eq x y := by
    unfold cmpN compareInt
    constructor
    · intro h
      split at h
      · omega
      · split at h
        · omega
        · omega
    · rintro rfl
      rw [if_neg (by omega), if_neg (by omega)]
  trans x y z := by
    unfold cmpN compareInt
    intro h1 h2
    split at h1
    · split at h2
      · rw [if_pos (by omega)]; omega
      · split at h2
        · omega
        · rw [if_pos (by omega)]; omega
    · split at h1
      · omega
      · split at h2
        · rw [if_pos (by omega)]; omega
        · split at h2
          · omega
          · rw [if_neg (by omega), if_neg (by omega)]; omega

def cmpB (a b : UInt8) : Int := cmpN a.toNat b.toNat
theorem tot_cmpB : Tot cmpB where
  one _ _ := tot_cmpN.one _ _
  neg _ _ := tot_cmpN.neg _ _
  eq _ _ := (tot_cmpN.eq _ _).trans UInt8.toNat_inj
  trans _ _ _ := tot_cmpN.trans _ _ _
theorem compareBytes_lex : ∀ a b : List UInt8, compareBytes a b = lex cmpB a b
  | [], [] => rfl
  | [], _ :: _ => rfl
  | _ :: _, [] => rfl
  | a :: as, b :: bs => by
    have ih := compareBytes_lex as bs
    simp only [compareBytes, lex, UInt8.lt_iff_toNat_lt]
    unfold cmpB cmpN compareInt
    by_cases h1 : a.toNat < b.toNat
    · rw [if_pos h1, if_pos (by omega : (a.toNat : Int) < b.toNat)]
      rw [if_neg (by omega)]
    · by_cases h2 : b.toNat < a.toNat
      · rw [if_neg h1, if_pos h2, if_neg (by omega : ¬ (a.toNat : Int) < b.toNat), if_pos (by omega : (a.toNat : Int) > b.toNat)]
        rw [if_neg (by omega)]
      · rw [if_neg h1, if_neg h2, if_neg (by omega : ¬ (a.toNat : Int) < b.toNat), if_neg (by omega : ¬ (a.toNat : Int) > b.toNat)]
        rw [if_pos rfl]
        exact ih

/-- The order of categories. -/
def cmpP (x y : List Nat × Nat) : Int := if lex cmpN x.1 y.1 = 0 then cmpN x.2 y.2 else lex cmpN x.1 y.1
theorem tot_cmpP : Tot cmpP where
  one x y := by
    unfold cmpP
    split
    · exact tot_cmpN.one _ _
    · exact tot_cmpN.lex.one _ _
  neg x y := by
    have hn := tot_cmpN.lex.neg x.1 y.1
    unfold cmpP
    by_cases h0 : lex cmpN x.1 y.1 = 0
    · rw [if_pos h0, if_pos (by omega)]
      exact tot_cmpN.neg _ _
    · rw [if_neg h0, if_neg (by omega)]
      exact hn
  eq x y := by
    obtain ⟨x1, x2⟩ := x
    obtain ⟨y1, y2⟩ := y
    unfold cmpP
    simp only [Prod.mk.injEq]
    by_cases h0 : lex cmpN x1 y1 = 0
    · rw [if_pos h0, tot_cmpN.eq]
      exact ⟨fun e => ⟨(tot_cmpN.lex.eq _ _).1 h0, e⟩, fun e => e.2⟩
    · rw [if_neg h0]
      exact ⟨fun e => absurd e h0, fun e => absurd ((tot_cmpN.lex.eq _ _).2 e.1) h0⟩
  trans x y z := by
    obtain ⟨x1, x2⟩ := x
    obtain ⟨y1, y2⟩ := y
    obtain ⟨z1, z2⟩ := z
    have L := tot_cmpN.lex
    unfold cmpP
    dsimp only
    intro h1 h2
    by_cases e1 : lex cmpN x1 y1 = 0
    · have := (L.eq _ _).1 e1
      subst this
      rw [if_pos e1] at h1
      by_cases e2 : lex cmpN x1 z1 = 0
      · rw [if_pos e2] at h2 ⊢
        exact tot_cmpN.trans _ _ _ h1 h2
      · rw [if_neg e2] at h2 ⊢
        exact h2
    · rw [if_neg e1] at h1
      have l1 : lex cmpN x1 y1 = -1 := by rcases L.one x1 y1 with h | h | h <;> omega
      by_cases e2 : lex cmpN y1 z1 = 0
      · have := (L.eq _ _).1 e2
        subst this
        rw [if_neg e1]
        exact h1
      · rw [if_neg e2] at h2
        have l2 : lex cmpN y1 z1 = -1 := by rcases L.one y1 z1 with h | h | h <;> omega
        have l3 := L.lt_trans l1 l2
        rw [if_neg (by omega)]
        omega

/-- The order of texts. -/
def cmpC (a b : List UInt8) : Int :=
  match catOf a, catOf b with
  | some x, some y => cmpP x y
  | some _, none => -1
  | none, some _ => 1
  | none, none => compareBytes a b
theorem tot_bytes : Tot compareBytes := by
  have e : compareBytes = lex cmpB := by funext a b; exact compareBytes_lex a b
  rw [e]
  exact tot_cmpB.lex
theorem tot_cmpC : Tot cmpC where
  one a b := by
    unfold cmpC
    split
    · exact tot_cmpP.one _ _
    · exact .inl rfl
    · exact .inr (.inr rfl)
    · exact tot_bytes.one _ _
  neg a b := by
    unfold cmpC
    cases catOf a <;> cases catOf b
    · exact tot_bytes.neg _ _
    · rfl
    · rfl
    · exact tot_cmpP.neg _ _
  eq a b := by
    constructor
    · intro h
      unfold cmpC at h
      cases ha : catOf a with
      | none =>
        cases hb : catOf b with
        | none => rw [ha, hb] at h; exact (tot_bytes.eq _ _).1 h
        | some y => rw [ha, hb] at h; dsimp only at h; omega
      | some x =>
        cases hb : catOf b with
        | none => rw [ha, hb] at h; dsimp only at h; omega
        | some y =>
          rw [ha, hb] at h
          have := (tot_cmpP.eq _ _).1 h
          subst this
          exact catOf_inj ha hb
    · rintro rfl
      unfold cmpC
      cases catOf a with
      | none => exact tot_bytes.refl a
      | some x => exact tot_cmpP.refl x
  trans a b d := by
    unfold cmpC
    cases catOf a <;> cases catOf b <;> cases catOf d <;> dsimp only <;> intro h1 h2
    · exact tot_bytes.trans _ _ _ h1 h2
    · omega
    · omega
    · omega
    · omega
    · omega
    · omega
    · exact tot_cmpP.trans _ _ _ h1 h2
end Go.Proofs.YtoegmajkfaokdaaDoor
