/- Lemmas for the law: Ent, L, N, Lm, Cc, M, La. -/
import Derived.Test.YtgcbfggoddkhnaaGreatDoorM02
import Derived.Laws.AppendOwnNone
import Derived.Test.YtgcbfggoddkhnaaGreatDoorM01
import Derived.Lib.Small
import Derived.Lib.SlicesCompact
namespace Go.Proofs.YtgcbfggoddkhnaaGreatDoor
open Go.RowKit Go.Shelf
abbrev Ent := List UInt8 × Int
def Ents (w : World) (B : Nat) (A : Option Addr) (l : List Ent) : Prop :=
 0 < l.length → ∃ b o, A = some ⟨b, o, none⟩ ∧ b < B ∧
  ∀ (k : Nat) (s : List UInt8) (n : Int), l[k]? = some (s, n) → w.cell? ⟨b, o + k * 2, none⟩ = some (.string (str s)) ∧ w.cell? ⟨b, o + k * 2 + 1, none⟩ = some (.int .i64 n)
theorem Ents.below {w w' : World} {B : Nat} {A : Option Addr} {l : List Ent} (h : Ents w B A l) (hb : Below B w w') : Ents w' B A l := fun hp => by
 obtain ⟨b, o, hA, hlt, hc⟩ := h hp
 refine ⟨b, o, hA, hlt, fun k s n hk => ?_⟩
 obtain ⟨c1, c2⟩ := hc k s n hk
 exact ⟨(hb.cell (p := ⟨b, o + k * 2, none⟩) hlt).trans c1, (hb.cell (p := ⟨b, o + k * 2 + 1, none⟩) hlt).trans c2⟩
theorem Ents.more {w : World} {B B' : Nat} {A : Option Addr} {l : List Ent} (h : Ents w B A l) (hB : B ≤ B') : Ents w B' A l := fun hp => by
 obtain ⟨b, o, hA, hlt, hc⟩ := h hp
 exact ⟨b, o, hA, by omega, hc⟩
theorem Ents.nil (w : World) (B : Nat) (A : Option Addr) : Ents w B A [] := fun h => absurd h (by simp)
theorem Ents.none {w : World} {B : Nat} {l : List Ent} (h : Ents w B none l) : l = [] := by
 cases l with
 | nil => rfl
 | cons x r => obtain ⟨b, o, hA, _⟩ := h (by simp); cases hA
def entCells : List Ent → List Value
 | [] => []
 | (s, n) :: r => .string (str s) :: .int .i64 n :: entCells r
theorem entCells_append (a b : List Ent) : entCells (a ++ b) = entCells a ++ entCells b := by
 induction a with
 | nil => rfl
 | cons x r ih => obtain ⟨s, n⟩ := x; simp [entCells, ih]
theorem entCells_length (l : List Ent) : (entCells l).length = l.length * 2 := by
 induction l with
 | nil => rfl
 | cons x r ih => obtain ⟨s, n⟩ := x; simp [entCells, ih]; omega
theorem entCells_get {l : List Ent} : ∀ {j : Nat} {u : Value}, (entCells l)[j]? = some u → ∃ (k : Nat) (s : List UInt8) (n : Int), l[k]? = some (s, n) ∧ ((j = k * 2 ∧ u = .string (str s)) ∨ (j = k * 2 + 1 ∧ u = .int .i64 n)) := by
 induction l with
 | nil => intro j u h; simp [entCells] at h
 | cons x r ih =>
  intro j u h
  obtain ⟨s, n⟩ := x
  match j, h with
  | 0, h => simp [entCells] at h; exact ⟨0, s, n, rfl, .inl ⟨rfl, h.symm⟩⟩
  | 1, h => simp [entCells] at h; exact ⟨0, s, n, rfl, .inr ⟨rfl, h.symm⟩⟩
  | j + 2, h =>
   obtain ⟨k, s', n', hk, hj⟩ := ih (j := j) (u := u) (by simpa [entCells] using h)
   refine ⟨k + 1, s', n', by simpa using hk, ?_⟩
   rcases hj with ⟨rfl, hu⟩ | ⟨rfl, hu⟩
   · exact .inl ⟨by omega, hu⟩
   · exact .inr ⟨by omega, hu⟩
theorem entCells_one (l : List Ent) : ∀ u ∈ entCells l, u.oneCell' = true := by
 intro u hu
 obtain ⟨j, hj⟩ := List.mem_iff_getElem?.1 hu
 obtain ⟨k, s, n, _, ⟨_, rfl⟩ | ⟨_, rfl⟩⟩ := entCells_get hj <;> rfl
theorem entCells_at {l : List Ent} {k : Nat} {s : List UInt8} {n : Int} (h : l[k]? = some (s, n)) : (entCells l)[k * 2]? = some (.string (str s)) ∧ (entCells l)[k * 2 + 1]? = some (.int .i64 n) := by
 induction l generalizing k with
 | nil => simp at h
 | cons x r ih =>
  obtain ⟨s', n'⟩ := x
  cases k with
  | zero => simp at h; obtain ⟨rfl, rfl⟩ := h; simp [entCells]
  | succ k =>
   have := ih (k := k) (by simpa using h)
   rw [show (k + 1) * 2 = k * 2 + 1 + 1 by omega]
   simpa [entCells] using this
theorem Ents.cells {w : World} {B : Nat} {a : Addr} {l : List Ent} (h : Ents w B (some a) l) : ∀ j u, (entCells l)[j]? = some u → w.cell? (a.add j) = some u := by
 intro j u hu
 obtain ⟨k, s, n, hk, hj⟩ := entCells_get hu
 have hp : 0 < l.length := by
   have := (List.getElem?_eq_some_iff.1 hk).1
   omega
 obtain ⟨b, o, hA, _, hc⟩ := h hp
 injection hA with hA
 subst hA
 obtain ⟨c1, c2⟩ := hc k s n hk
 rw [Go.WideShapes.add_plain]
 rcases hj with ⟨rfl, rfl⟩ | ⟨rfl, rfl⟩
 · exact c1
 · rw [← Nat.add_assoc]; exact c2
def EntRow (w : World) (B : Nat) (v : Value) (l : List Ent) : Prop := w.ownsRow B 42 2 v l.length (entCells l)
theorem EntRow.below {w w' : World} {B : Nat} {v : Value} {l : List Ent} (h : EntRow w B v l) (hb : Below w.heap.size w w') : EntRow w' B v l :=
 World.ownsRow.kept (row := Option.none) h (grown_of_below hb) (by cases v.ownBlock <;> simp)
theorem EntRow.ents {w : World} {B : Nat} {v : Value} {l : List Ent} (h : EntRow w B v l) : ∃ A c, v = .slice A l.length c ∧ (A = none → c = 0) ∧ Ents w w.heap.size A l := by
 have h0 : w.ownsRow B 42 2 v l.length (entCells l) := h
 rcases h0.2 with ⟨rfl, he⟩ | ⟨g, cap, cur, rfl, hb, hh, hcc⟩
 · exact ⟨none, 0, by rw [he], fun _ => rfl, fun h => by omega⟩
 · refine ⟨_, cap, rfl, (fun h => by cases h), fun _ => ⟨g, 0, rfl, (h0.lt g rfl).2, fun k s n hk => ?_⟩⟩
   obtain ⟨e1, e2⟩ := entCells_at hk
   have c1 := h0.cells (g := g) rfl _ _ e1
   have c2 := h0.cells (g := g) rfl _ _ e2
   rw [Go.WideShapes.add_plain] at c1 c2
   exact ⟨c1, by rw [Nat.add_assoc]; exact c2⟩
theorem Tryz.info42 : (Tryz.prog.info? 42).map (fun i => (i.zero, i.size, i.bytes)) = some (some (.agg #[.string ⟨#[]⟩, .int .i64 0]), 2, 24) := by kernel_rfl
theorem wpList_append_ents {w : World} {ops : Array Oper} {rest : List Oper} {o : Oper} {a : Act} {Q : Exit → Act → World → Prop} (hgd : o.guard = none) (s x : Operand) (t : TypeId) (ht : Tryz.prog.underlying t = some (.slice 42))
  (ho : o.op = .call { callee := .builtin .append, args := #[s, x], argTypes := #[t, t] }) (base : Nat) (v : Value) (ys : List Ent) (hs : a.eval s = v)
  (hown : EntRow w base v ys) (B : Nat) (A : Option Addr) (c : Nat) (xs : List Ent) (hxe : a.eval x = .slice A xs.length c) (hx : Ents w B A xs) (hc : A = none → c = 0)
  (hn : ys.length + xs.length ≤ 100000001) (hbase : base ≤ w.heap.size)
  (h : ∀ v' w', EntRow w' base v' (ys ++ xs) → Below base w w' → wpList Tryz.prog ops Q rest (a.put o.dst v') w') : wpList Tryz.prog ops Q (o :: rest) a w := by
 obtain ⟨i0, hi, hz0, hz1, hz2⟩ := info_parts Tryz.info42
 cases A with
 | none =>
  have hx0 := hx.none
  subst hx0
  rw [hc rfl] at hxe
  exact wpList_append_own_none hgd s x t ho base 42 i0 2 ht hi v ys.length _ hs hown hxe (h v w (by simpa using hown) (Below.refl _ _))
 | some ad =>
  refine wpList_append_own w hgd s x t ho base 42 i0 _ 2 24 ht hi hz0 hz1 hz2 rfl (by decide) v ys.length _ hs hown ad xs.length c (entCells xs) hxe (entCells_length xs) hx.cells (entCells_one xs) (by unfold maxLen; omega) (by omega) hbase ?_
  intro v' w' h1 h2 _
  refine h v' w' (by unfold EntRow; rw [entCells_append, List.length_append]; exact h1) ((Below.refl base w).grown h2 hbase fun k e => ?_)
  exact (World.ownsRow.lt hown k e).1
theorem ents_one (w : World) (s : List UInt8) (n : Int) : Ents (w.alloc (.cells #[.string (str s), .int .i64 n] 42)) (w.heap.size + 1) (some ⟨w.heap.size, 0, none⟩) [(s, n)] := fun _ => by
 refine ⟨w.heap.size, 0, rfl, by omega, fun k s' n' hk => ?_⟩
 cases k with
 | zero =>
  simp at hk
  obtain ⟨rfl, rfl⟩ := hk
  exact ⟨by simp, by simp⟩
 | succ k => simp at hk
end Go.Proofs.YtgcbfggoddkhnaaGreatDoor
namespace Go.Proofs.YtgcbfggoddkhnaaGreatDoor
open Go.Lib
structure Tot {α : Type} (c : α → α → Int) : Prop where
 one : ∀ x y, c x y = -1 ∨ c x y = 0 ∨ c x y = 1
 neg : ∀ x y, c y x = -c x y
 eq : ∀ x y, c x y = 0 ↔ x = y
 trans : ∀ x y z, c x y ≤ 0 → c y z ≤ 0 → c x z ≤ 0
theorem Tot.refl {α : Type} {c : α → α → Int} (h : Tot c) (x : α) : c x x = 0 := (h.eq x x).2 rfl
theorem Tot.lt_trans {α : Type} {c : α → α → Int} (h : Tot c) {x y z : α} (h1 : c x y = -1) (h2 : c y z = -1) : c x z = -1 := by
 have h3 := h.trans x y z (by omega) (by omega)
 rcases h.one x z with h4 | h4 | h4
 · exact h4
 · have e := (h.eq x z).1 h4
   subst e
   have := h.neg x y
   omega
 · omega
def lex {α : Type} (c : α → α → Int) : List α → List α → Int
 | [], [] => 0
 | [], _ :: _ => -1
 | _ :: _, [] => 1
 | a :: as9, b :: bs => if c a b = 0 then lex c as9 bs else c a b
theorem Tot.lex {α : Type} {c : α → α → Int} (h : Tot c) : Tot (lex c) where
 one := by
  intro x
  induction x with
  | nil => intro y; cases y <;> simp [YtgcbfggoddkhnaaGreatDoor.lex]
  | cons a as9 ih =>
   intro y
   cases y with
   | nil => simp [YtgcbfggoddkhnaaGreatDoor.lex]
   | cons b bs =>
    simp only [YtgcbfggoddkhnaaGreatDoor.lex]
    split
    · exact ih bs
    · exact h.one a b
 neg := by
  intro x
  induction x with
  | nil => intro y; cases y <;> simp [YtgcbfggoddkhnaaGreatDoor.lex]
  | cons a as9 ih =>
   intro y
   cases y with
   | nil => simp [YtgcbfggoddkhnaaGreatDoor.lex]
   | cons b bs =>
    have hn := h.neg a b
    simp only [YtgcbfggoddkhnaaGreatDoor.lex]
    by_cases h0 : c a b = 0
    · rw [if_pos h0, if_pos (by omega)]
      exact ih bs
    · rw [if_neg h0, if_neg (by omega)]
      exact hn
 eq := by
  intro x
  induction x with
  | nil => intro y; cases y <;> simp [YtgcbfggoddkhnaaGreatDoor.lex]
  | cons a as9 ih =>
   intro y
   cases y with
   | nil => simp [YtgcbfggoddkhnaaGreatDoor.lex]
   | cons b bs =>
    simp only [YtgcbfggoddkhnaaGreatDoor.lex, List.cons.injEq]
    by_cases h0 : c a b = 0
    · rw [if_pos h0, ih bs]
      exact ⟨fun e => ⟨(h.eq a b).1 h0, e⟩, fun e => e.2⟩
    · rw [if_neg h0]
      exact ⟨fun e => absurd e h0, fun e => absurd ((h.eq a b).2 e.1) h0⟩
 trans := by
  intro x
  induction x with
  | nil => intro y z _ h2; cases z <;> simp [YtgcbfggoddkhnaaGreatDoor.lex]
  | cons a as9 ih =>
   intro y z h1 h2
   cases y with
   | nil => simp [YtgcbfggoddkhnaaGreatDoor.lex] at h1
   | cons b bs =>
    cases z with
    | nil => simp [YtgcbfggoddkhnaaGreatDoor.lex] at h2
    | cons d ds =>
      simp only [YtgcbfggoddkhnaaGreatDoor.lex] at h1 h2 ⊢
      by_cases e1 : c a b = 0
      · have := (h.eq a b).1 e1
        subst this
        rw [if_pos e1] at h1
        by_cases e2 : c a d = 0
        · rw [if_pos e2] at h2 ⊢
          exact ih _ _ h1 h2
        · rw [if_neg e2] at h2 ⊢
          exact h2
      · rw [if_neg e1] at h1
        have l1 : c a b = -1 := by rcases h.one a b with h | h | h <;> omega
        by_cases e2 : c b d = 0
        · have := (h.eq b d).1 e2
          subst this
          rw [if_neg e1]
          exact h1
        · rw [if_neg e2] at h2
          have l2 : c b d = -1 := by rcases h.one b d with h | h | h <;> omega
          have l3 := h.lt_trans l1 l2
          rw [if_neg (by omega)]
          omega
theorem lex_drop {α : Type} {c : α → α → Int} : ∀ (m : Nat) (p q : List α), (∀ k x y, k < m → p[k]? = some x → q[k]? = some y → c x y = 0) → m ≤ p.length → m ≤ q.length → lex c (p.drop m) (q.drop m) = lex c p q
 | 0, _, _, _, _, _ => rfl
 | m + 1, [], _, _, hp, _ => by simp at hp
 | m + 1, _ :: _, [], _, _, hq => by simp at hq
 | m + 1, a :: p, b :: q, h, hp, hq => by
  have h0 := h 0 a b (by omega) rfl rfl
  simp only [List.drop_succ_cons, lex]
  rw [if_pos h0]
  exact lex_drop m p q (fun k x y hk hx hy => h (k + 1) x y (by omega) hx hy) (by simpa using hp) (by simpa using hq)
def cmpN (a b : Nat) : Int := compareInt (a : Int) (b : Int)
theorem tot_cmpN : Tot cmpN where
 one x y := by
  unfold cmpN compareInt
  split
  · exact .inl rfl
  · split
    · exact .inr (.inr rfl)
    · exact .inr (.inl rfl)
 neg x y := by
  unfold cmpN compareInt
  by_cases h1 : (x : Int) < y
  · rw [if_pos h1, if_neg (by omega), if_pos (by omega)]
    rfl
  · by_cases h2 : (y : Int) < x
    · rw [if_pos h2, if_neg h1, if_pos (by omega)]
    · rw [if_neg h2, if_neg (by omega), if_neg h1, if_neg (by omega)]
      rfl
 eq x y := by
  unfold cmpN compareInt
  constructor
  · intro h
    split at h
    · omega
    · split at h
      · omega
      · omega
  · rintro rfl
    rw [if_neg (by omega), if_neg (by omega)]
 trans x y z := by
  unfold cmpN compareInt
  intro h1 h2
  split at h1
  · split at h2
    · rw [if_pos (by omega)]; omega
    · split at h2
      · omega
      · rw [if_pos (by omega)]; omega
  · split at h1
    · omega
    · split at h2
      · rw [if_pos (by omega)]; omega
      · split at h2
        · omega
        · rw [if_neg (by omega), if_neg (by omega)]; omega
def cmpB (a b : UInt8) : Int := cmpN a.toNat b.toNat
theorem tot_cmpB : Tot cmpB where
 one _ _ := tot_cmpN.one _ _
 neg _ _ := tot_cmpN.neg _ _
 eq _ _ := (tot_cmpN.eq _ _).trans UInt8.toNat_inj
 trans _ _ _ := tot_cmpN.trans _ _ _
theorem compareBytes_lex : ∀ a b : List UInt8, compareBytes a b = lex cmpB a b
 | [], [] => rfl
 | [], _ :: _ => rfl
 | _ :: _, [] => rfl
 | a :: as9, b :: bs => by
  have ih := compareBytes_lex as9 bs
  simp only [compareBytes, lex, UInt8.lt_iff_toNat_lt]
  unfold cmpB cmpN compareInt
  by_cases h1 : a.toNat < b.toNat
  · rw [if_pos h1, if_pos (by omega : (a.toNat : Int) < b.toNat)]
    rw [if_neg (by omega)]
  · by_cases h2 : b.toNat < a.toNat
    · rw [if_neg h1, if_pos h2, if_neg (by omega : ¬ (a.toNat : Int) < b.toNat), if_pos (by omega : (a.toNat : Int) > b.toNat)]
      rw [if_neg (by omega)]
    · rw [if_neg h1, if_neg h2, if_neg (by omega : ¬ (a.toNat : Int) < b.toNat), if_neg (by omega : ¬ (a.toNat : Int) > b.toNat)]
      rw [if_pos rfl]
      exact ih
def cmpP (x y : List Nat × Nat) : Int := if lex cmpN x.1 y.1 = 0 then cmpN x.2 y.2 else lex cmpN x.1 y.1
theorem tot_cmpP : Tot cmpP where
 one x y := by
  unfold cmpP
  split
  · exact tot_cmpN.one _ _
  · exact tot_cmpN.lex.one _ _
 neg x y := by
  have hn := tot_cmpN.lex.neg x.1 y.1
  unfold cmpP
  by_cases h0 : lex cmpN x.1 y.1 = 0
  · rw [if_pos h0, if_pos (by omega)]
    exact tot_cmpN.neg _ _
  · rw [if_neg h0, if_neg (by omega)]
    exact hn
 eq x y := by
  obtain ⟨x1, x2⟩ := x
  obtain ⟨y1, y2⟩ := y
  unfold cmpP
  simp only [Prod.mk.injEq]
  by_cases h0 : lex cmpN x1 y1 = 0
  · rw [if_pos h0, tot_cmpN.eq]
    exact ⟨fun e => ⟨(tot_cmpN.lex.eq _ _).1 h0, e⟩, fun e => e.2⟩
  · rw [if_neg h0]
    exact ⟨fun e => absurd e h0, fun e => absurd ((tot_cmpN.lex.eq _ _).2 e.1) h0⟩
 trans x y z := by
  obtain ⟨x1, x2⟩ := x
  obtain ⟨y1, y2⟩ := y
  obtain ⟨z1, z2⟩ := z
  have L := tot_cmpN.lex
  unfold cmpP
  dsimp only
  intro h1 h2
  by_cases e1 : lex cmpN x1 y1 = 0
  · have := (L.eq _ _).1 e1
    subst this
    rw [if_pos e1] at h1
    by_cases e2 : lex cmpN x1 z1 = 0
    · rw [if_pos e2] at h2 ⊢
      exact tot_cmpN.trans _ _ _ h1 h2
    · rw [if_neg e2] at h2 ⊢
      exact h2
  · rw [if_neg e1] at h1
    have l1 : lex cmpN x1 y1 = -1 := by rcases L.one x1 y1 with h | h | h <;> omega
    by_cases e2 : lex cmpN y1 z1 = 0
    · have := (L.eq _ _).1 e2
      subst this
      rw [if_neg e1]
      exact h1
    · rw [if_neg e2] at h2
      have l2 : lex cmpN y1 z1 = -1 := by rcases L.one y1 z1 with h | h | h <;> omega
      have l3 := L.lt_trans l1 l2
      rw [if_neg (by omega)]
      omega
def cmpC (a b : List UInt8) : Int :=
 match catOf a, catOf b with
 | some x, some y => cmpP x y
 | some _, none => -1
 | none, some _ => 1
 | none, none => compareBytes a b
theorem tot_bytes : Tot compareBytes := by
 have e : compareBytes = lex cmpB := by funext a b; exact compareBytes_lex a b
 rw [e]
 exact tot_cmpB.lex
theorem tot_cmpC : Tot cmpC where
 one a b := by
  unfold cmpC
  split
  · exact tot_cmpP.one _ _
  · exact .inl rfl
  · exact .inr (.inr rfl)
  · exact tot_bytes.one _ _
 neg a b := by
  unfold cmpC
  cases catOf a <;> cases catOf b
  · exact tot_bytes.neg _ _
  · rfl
  · rfl
  · exact tot_cmpP.neg _ _
 eq a b := by
  constructor
  · intro h
    unfold cmpC at h
    cases ha : catOf a with
    | none =>
     cases hb : catOf b with
     | none => rw [ha, hb] at h; exact (tot_bytes.eq _ _).1 h
     | some y => rw [ha, hb] at h; dsimp only at h; omega
    | some x =>
     cases hb : catOf b with
     | none => rw [ha, hb] at h; dsimp only at h; omega
     | some y =>
      rw [ha, hb] at h
      have := (tot_cmpP.eq _ _).1 h
      subst this
      exact catOf_inj ha hb
  · rintro rfl
    unfold cmpC
    cases catOf a with
    | none => exact tot_bytes.refl a
    | some x => exact tot_cmpP.refl x
 trans a b d := by
  unfold cmpC
  cases catOf a <;> cases catOf b <;> cases catOf d <;> dsimp only <;> intro h1 h2
  · exact tot_bytes.trans _ _ _ h1 h2
  · omega
  · omega
  · omega
  · omega
  · omega
  · omega
  · exact tot_cmpP.trans _ _ _ h1 h2
end Go.Proofs.YtgcbfggoddkhnaaGreatDoor
namespace Go.Proofs.YtgcbfggoddkhnaaGreatDoor
open Go.Lib
def Rises {α : Type} (c : α → α → Int) (l : List α) : Prop := l.Pairwise fun x y => c x y = -1
def RisesW {α : Type} (c : α → α → Int) (l : List α) : Prop := l.Pairwise fun x y => c x y ≤ 0
theorem get_lt {α : Type} [Inhabited α] {zs : List α} {i : Nat} (h : i < zs.length) : zs.toArray[i]! = zs[i] := by
 rw [getElem!_pos zs.toArray i (by simpa using h)]
 simp
theorem rises_compact {α : Type} [Inhabited α] [DecidableEq α] {c : α → α → Int} (hT : Tot c) {zs : List α} (h : RisesW c zs) : Rises c (compact zs) ∧ ∀ x, x ∈ compact zs ↔ x ∈ zs := by
 have le : ∀ i j, i ≤ j → (hj : j < zs.length) → c zs.toArray[i]! zs.toArray[j]! ≤ 0 := fun i j hij hj => by
   rw [get_lt (by omega), get_lt hj]
   by_cases e : i = j
   · subst e
     rw [hT.refl]
     omega
   · exact List.pairwise_iff_getElem.1 h i j (by omega) hj (by omega)
 constructor
 · unfold Rises compact compactUpTo
   rw [List.pairwise_map]
   have hp : ((List.range zs.length).filter (keeps zs.toArray)).Pairwise (· < ·) := List.Pairwise.filter _ List.pairwise_lt_range
   refine hp.imp_of_mem fun {i j} hi hj hij => ?_
   have hj1 := (List.mem_filter.1 hj)
   have hjl : j < zs.length := by simpa using hj1.1
   have hk := hj1.2
   have hne : zs.toArray[j]! ≠ zs.toArray[j - 1]! := by
     intro e
     rw [keeps_neg (by omega) e] at hk
     cases hk
   have h1 := le i (j - 1) (by omega) (by omega)
   have h2 := le (j - 1) j (by omega) hjl
   have h3 : c zs.toArray[j - 1]! zs.toArray[j]! = -1 := by
     rcases hT.one zs.toArray[j - 1]! zs.toArray[j]! with h | h | h
     · exact h
     · exact absurd ((hT.eq _ _).1 h).symm hne
     · omega
   have h4 := hT.trans _ _ _ h1 h2
   rcases hT.one zs.toArray[i]! zs.toArray[j]! with h | h | h
   · exact h
   · have e := (hT.eq _ _).1 h
     rw [e] at h1
     have := hT.neg zs.toArray[j - 1]! zs.toArray[j]!
     omega
   · omega
 · intro x
   unfold compact compactUpTo
   constructor
   · intro hx
     obtain ⟨j, hj, rfl⟩ := List.mem_map.1 hx
     have hjl : j < zs.length := by simpa using (List.mem_filter.1 hj).1
     rw [get_lt hjl]
     exact List.getElem_mem hjl
   · intro hx
     have key : ∀ j, (hj : j < zs.length) → zs.toArray[j]! = x → x ∈ ((List.range zs.length).filter (keeps zs.toArray)).map (zs.toArray[·]!) := by
       intro j
       induction j with
       | zero =>
        intro hj e
        exact List.mem_map.2 ⟨0, List.mem_filter.2 ⟨by simpa using hj, keeps_lt_one _ 0 (by omega)⟩, e⟩
       | succ j ih =>
        intro hj e
        by_cases hk : zs.toArray[j + 1]! = zs.toArray[j]!
        · exact ih (by omega) (hk.symm.trans e)
        · exact List.mem_map.2 ⟨j + 1, List.mem_filter.2 ⟨by simpa using hj, keeps_pos (by simpa using hk)⟩, e⟩
     obtain ⟨j, hj, e⟩ := List.getElem_of_mem hx
     exact key j hj (by rw [get_lt hj]; exact e)
theorem rises_unique {α : Type} {c : α → α → Int} (hT : Tot c) : ∀ {l m : List α}, Rises c l → Rises c m → (∀ x, x ∈ l ↔ x ∈ m) → l = m
 | [], [], _, _, _ => rfl
 | [], y :: m, _, _, h => absurd ((h y).2 (by simp)) (by simp)
 | x :: l, [], _, _, h => absurd ((h x).1 (by simp)) (by simp)
 | x :: l, y :: m, hl, hm, h => by
  have hl1 := List.pairwise_cons.1 hl
  have hm1 := List.pairwise_cons.1 hm
  have irr : ∀ z, ¬ c z z = -1 := fun z e => by rw [hT.refl] at e; omega
  have exy : x = y := by
    rcases List.mem_cons.1 ((h x).1 (by simp)) with e | e
    · exact e
    · rcases List.mem_cons.1 ((h y).2 (by simp)) with e2 | e2
      · exact e2.symm
      · exact absurd (hT.lt_trans (hl1.1 y e2) (hm1.1 x e)) (irr x)
  subst exy
  rw [rises_unique hT hl1.2 hm1.2 (fun z => ?_)]
  constructor
  · intro hz
    rcases List.mem_cons.1 ((h z).1 (List.mem_cons_of_mem _ hz)) with e | e
    · subst e
      exact absurd (hl1.1 z hz) (irr z)
    · exact e
  · intro hz
    rcases List.mem_cons.1 ((h z).2 (List.mem_cons_of_mem _ hz)) with e | e
    · subst e
      exact absurd (hm1.1 z hz) (irr z)
    · exact e
end Go.Proofs.YtgcbfggoddkhnaaGreatDoor
namespace Go.Proofs.YtgcbfggoddkhnaaGreatDoor
def lev : List Ent → List UInt8 → Int
 | [], _ => 1
 | e :: r, c => if e.1 = c then e.2 else lev r c
def keys (l : List Ent) : List (List UInt8) := l.map Prod.fst
theorem lev_none {l : List Ent} {c : List UInt8} (h : ∀ x ∈ l, x.1 ≠ c) : lev l c = 1 := by
 induction l with
 | nil => rfl
 | cons x r ih => rw [lev, if_neg (h x (by simp)), ih fun y hy => h y (by simp [hy])]
theorem lev_hit {l : List Ent} {c : List UInt8} : ∀ {m : Nat} {e : Ent}, l[m]? = some e → (∀ x ∈ l.take m, x.1 ≠ c) → e.1 = c → lev l c = e.2 := by
 induction l with
 | nil => intro m e h; simp at h
 | cons x r ih =>
  intro m e h hno he
  cases m with
  | zero => simp at h; subst h; rw [lev, if_pos he]
  | succ m => rw [lev, if_neg (hno x (by simp)), ih (by simpa using h) (fun y hy => hno y (by simp [hy])) he]
theorem lev_mem (l : List Ent) (c : List UInt8) : (c ∉ keys l ∧ lev l c = 1) ∨ ∃ e ∈ l, e.1 = c ∧ lev l c = e.2 := by
 induction l with
 | nil => exact .inl ⟨by simp [keys], rfl⟩
 | cons x r ih =>
  by_cases hx : x.1 = c
  · exact .inr ⟨x, by simp, hx, by rw [lev, if_pos hx]⟩
  · rcases ih with ⟨h1, h2⟩ | ⟨e, he, h1, h2⟩
    · exact .inl ⟨by simp only [keys, List.map_cons, List.mem_cons, not_or]; exact ⟨fun h => hx h.symm, h1⟩, by rw [lev, if_neg hx, h2]⟩
    · exact .inr ⟨e, by simp [he], h1, by rw [lev, if_neg hx, h2]⟩
def last (l : List Ent) (c : List UInt8) : Int := l.foldl (fun n e => if e.1 = c then e.2 else n) 1
def entErr (e : Ent) : Int := if (catOf e.1).isSome = false then 20 else if e.2 < 0 ∨ 3 < e.2 then 21 else 0
theorem entErr_zero {e : Ent} : entErr e = 0 ↔ (catOf e.1).isSome = true ∧ 0 ≤ e.2 ∧ e.2 ≤ 3 := by
 unfold entErr
 cases (catOf e.1).isSome with
 | false => simp
 | true =>
  by_cases h : e.2 < 0 ∨ 3 < e.2
  · simp [h]; omega
  · simp [h]; omega
def Labs (f : List UInt8 → Int) (m : List Ent) : Prop := Rises cmpC (keys m) ∧ (∀ c, c ∈ keys m ↔ f c ≠ 1) ∧ ∀ e ∈ m, e.2 = f e.1
theorem Labs.lev {f : List UInt8 → Int} {m : List Ent} (h : Labs f m) : lev m = f := by
 funext c
 rcases lev_mem m c with ⟨h1, h2⟩ | ⟨e, he, h1, h2⟩
 · rw [h2]
   by_cases hf : f c = 1
   · exact hf.symm
   · exact absurd ((h.2.1 c).2 hf) h1
 · rw [h2, h.2.2 e he, h1]
def RightL (l : List Ent) : Prop := l.length ≤ 8 ∧ (∀ e ∈ l, entErr e = 0 ∧ e.2 ≠ 1) ∧ Rises cmpC (keys l)
instance (l : List Ent) : Decidable (RightL l) := by unfold RightL Rises; infer_instance
theorem RightL.cat {l : List Ent} (h : RightL l) {c : List UInt8} (hc : c ∈ keys l) : (catOf c).isSome = true := by
 obtain ⟨e, he, rfl⟩ := List.mem_map.1 hc
 exact (entErr_zero.1 (h.2.1 e he).1).1
def firstErr : List Ent → Int
 | [] => 0
 | e :: r => if entErr e = 0 then firstErr r else entErr e
def MakeOut (l m : List Ent) (n : Int) : Prop :=
 (firstErr l ≠ 0 ∧ m = [] ∧ n = firstErr l) ∨ (firstErr l = 0 ∧ ∃ m', Labs (last l) m' ∧ ((8 < m'.length ∧ m = [] ∧ n = 13) ∨ (m'.length ≤ 8 ∧ m = m' ∧ n = 0)))
theorem MakeOut.ok {l m : List Ent} (h : MakeOut l m 0) : firstErr l = 0 ∧ Labs (last l) m ∧ m.length ≤ 8 := by
 rcases h with ⟨h1, _, h2⟩ | ⟨h1, p, hp, ⟨_, _, h2⟩ | ⟨h5, rfl, _⟩⟩
 · exact absurd h2.symm h1
 · cases h2
 · exact ⟨h1, hp, h5⟩
theorem MakeOut.bad {l m : List Ent} {n : Int} (h : MakeOut l m n) (hn : n ≠ 0) : m = [] := by
 rcases h with ⟨_, h2, _⟩ | ⟨_, p, hp, ⟨_, h2, _⟩ | ⟨_, _, h2⟩⟩
 · exact h2
 · exact h2
 · exact absurd h2 hn
def FlowsL (a b : List Ent) : Prop := RightL a ∧ RightL b ∧ ∀ e ∈ a ++ b, lev a e.1 ≤ lev b e.1
instance (a b : List Ent) : Decidable (FlowsL a b) := by unfold FlowsL; infer_instance
def picked (pick : Int → Int → Int) (a b : List Ent) : List Ent := (a ++ b).map fun e => (e.1, pick (lev a e.1) (lev b e.1))
end Go.Proofs.YtgcbfggoddkhnaaGreatDoor
namespace Go.Proofs.YtgcbfggoddkhnaaGreatDoor
open Go.RowKit
theorem grow_any (n : Nat) (hn : n ≤ 100000001) (w : World) : Calls Tryz.prog 182 #[.slice none 0 0, .int .i64 (n : Int)] w fun e w' => ∃ v, e = .returned v ∧ EntRow w' w.heap.size v [] ∧ Below w.heap.size w w' := by
 by_cases h0 : n = 0
 · subst h0
   refine Calls.mono (show Calls Tryz.prog 182 _ _ _ from Any8.slices_Grow_room Tryz.growA none 0 0 0 w (Nat.le_refl _) (by omega) (by omega) (Nat.le_refl _)) ?_
   rintro e w' ⟨rfl, rfl⟩
   exact ⟨_, rfl, World.ownsRow_nil _ _ _ _, Below.refl _ _⟩
 · obtain ⟨i0, hi, hz0, hz1, hz2⟩ := info_parts Tryz.info42
   refine Calls.mono (show Calls Tryz.prog 182 _ _ _ from Any8.slices_Grow_grow Tryz.growA i0 _ hi hz0 (by rw [hz1]; omega) none 0 0 n [] w (Nat.le_refl _) (by omega) (by rw [hz2]; omega) (by omega) (by simp) (fun _ => rfl) (fun a h => by cases h)) ?_
   rintro e w' ⟨rfl, rfl⟩
   refine ⟨_, rfl, ?_, ((Below.refl _ _).drew).alloc (Nat.le_refl _) _⟩
   refine World.ownsRow_made w.drew _ _ (Nat.le_refl _) (grownCap_le_maxLen w _ _ _ (by unfold maxLen; omega)) ?_
   have hge := grownCap_ge w (0 + n) 0 42
   rw [Nat.zero_add] at hge
   have e33 : Tryz.growA_ren.t 25 = 42 := rfl
   simp only [e33, Array.size_append, size_zeroCells, List.size_toArray, List.length_nil, Value.cells]
   simp
   omega
def two (l1 l2 : List Ent) : Nat → List Ent
 | 0 => []
 | 1 => l1
 | _ => l1 ++ l2
def CcRel (w : World) (l1 l2 : List Ent) (k : Nat) (v i : Value) (wr : World) : Prop :=
 ∃ m, m + k = 2 ∧ i = .int .i64 (m : Int) ∧ v = .int .i64 ((two l1 l2 m).length : Int) ∧ w = wr
def CcRel2 (w : World) (l1 l2 : List Ent) (k : Nat) (v i : Value) (wr : World) : Prop :=
 ∃ m, m + k = 2 ∧ i = .int .i64 (m : Int) ∧ EntRow wr w.heap.size v (two l1 l2 m) ∧ Below w.heap.size w wr
def RetRow (w : World) (l : List Ent) (e : Ending) (w' : World) : Prop := ∃ v, e = .returned v ∧ EntRow w' w.heap.size v l ∧ Below w.heap.size w w'
set_option maxRecDepth 100000 in
theorem concat_any {w : World} {b o : Nat} {A1 A2 : Option Addr} {c1 c2 : Nat} {l1 l2 : List Ent} (k1 : w.cell? ⟨b, o, none⟩ = some (.slice A1 l1.length c1)) (k2 : w.cell? ⟨b, o + 1, none⟩ = some (.slice A2 l2.length c2)) (hb : b < w.heap.size)
  (h1 : Ents w w.heap.size A1 l1) (h2 : Ents w w.heap.size A2 l2) (n1 : A1 = none → c1 = 0) (n2 : A2 = none → c2 = 0) (hn : l1.length + l2.length ≤ 100000000) :
  Calls Tryz.prog 155 #[.slice (some ⟨b, o, none⟩) 2 2] w (RetRow w (l1 ++ l2)) := by
 have H1 := Lib.hid h1
 have H2 := Lib.hid h2
 have N1 := Lib.hid n1
 have N2 := Lib.hid n2
 clear h1 h2 n1 n2
 go_enter Tryz.func155, Tryz.ntmps155
 go_wp2_with fail
 go_loopg [3, 11] 2 (fun k v i wr => CcRel w l1 l2 k v i wr)
 case atStart => exact ⟨0, rfl, rfl, rfl, rfl⟩
 case round =>
  obtain ⟨m, hmk, hi, hv, hw⟩ := hrel
  subst hi hv hw
  cases gk with
  | succ j =>
   have hm : m = 0 ∨ m = 1 := by omega
   have HM := Lib.hid hmk
   rcases hm with rfl | rfl
   · have e0 : (two l1 l2 0).length = 0 := rfl
     have e1 : Hid ((two l1 l2 1).length = l1.length) := rfl
     rw [e0]
     clear hmk
     go_wp2_with fail
     go_roundg j
     case measure => omega
     case rel => exact ⟨1, by have := HM.out; omega, by go_num, by rw [e1.out], rfl⟩
   · have e0 : (two l1 l2 1).length = l1.length := rfl
     have e1 : Hid ((two l1 l2 2).length = l1.length + l2.length) := by unfold Hid two; simp
     rw [e0]
     clear hmk
     go_wp2_with fail
     go_roundg j
     case measure => omega
     case rel => exact ⟨2, by have := HM.out; omega, by go_num, by rw [e1.out]; go_num, rfl⟩
  | zero =>
   have hm2 : m = 2 := by omega
   subst hm2
   have e0 : (two l1 l2 2).length = l1.length + l2.length := by unfold two; simp
   rw [e0]
   have HG := Lib.hid (grow_any (l1.length + l2.length) (by omega) w)
   clear hmk
   go_wp2_with fail
   refine HG.out.mono ?_
   rintro e w1 ⟨v1, rfl, hr1, hb1⟩
   have B1 := Lib.hid hb1
   have R1 := Lib.hid hr1
   clear hb1 hr1
   go_wp2_with fail
   go_loopg [6, 27] 2 (fun k v i wr => CcRel2 w l1 l2 k v i wr)
   case atStart => exact ⟨0, rfl, rfl, R1.out, B1.out⟩
   case round =>
     obtain ⟨m, hmk, hi, hr, hbw⟩ := hrel
     subst hi
     have BW := Lib.hid hbw
     have RW := Lib.hid hr
     cases gk with
     | zero =>
      have hm2 : m = 2 := by omega
      subst hm2
      clear hr hbw
      go_wp2_with fail
      go_ret
      exact ⟨_, rfl, RW.out, BW.out⟩
     | succ j =>
      have hm : m = 0 ∨ m = 1 := by omega
      have HM := Lib.hid hmk
      have hsz := hbw.size
      rcases hm with rfl | rfl
      · have q1 := (hbw.cell (p := ⟨b, o, none⟩) hb).trans k1
        have hle : (two l1 l2 0).length + l1.length ≤ 100000001 := by simp [two]; omega
        have HE := Lib.hid (H1.out.below hbw)
        clear hmk hr hbw
        go_wp2_with (first
         | (at_builtin; refine wpList_append_ents rfl _ _ 23 Tryz.underlying23 rfl w.heap.size _ _ rfl RW.out w.heap.size A1 c1 l1 rfl HE.out N1.out hle hsz ?_))
        intro v' w2 hr2 hb2
        have B2 := Lib.hid (BW.out.trans hb2)
        have R2 := Lib.hid hr2
        clear hr2 hb2
        go_wp2_with fail
        go_roundg j
        case measure => omega
        case rel => exact ⟨1, by have := HM.out; omega, by go_num, R2.out, B2.out⟩
      · have q1 := (hbw.cell (p := ⟨b, o + 1, none⟩) hb).trans k2
        have hle : (two l1 l2 1).length + l2.length ≤ 100000001 := by simp [two]; omega
        have HE := Lib.hid (H2.out.below hbw)
        clear hmk hr hbw
        go_wp2_with (first
         | (at_builtin; refine wpList_append_ents rfl _ _ 23 Tryz.underlying23 rfl w.heap.size _ _ rfl RW.out w.heap.size A2 c2 l2 rfl HE.out N2.out hle hsz ?_))
        intro v' w2 hr2 hb2
        have B2 := Lib.hid (BW.out.trans hb2)
        have R2 := Lib.hid hr2
        clear hr2 hb2
        go_wp2_with fail
        go_roundg j
        case measure => omega
        case rel => exact ⟨2, by have := HM.out; omega, by go_num, R2.out, B2.out⟩
end Go.Proofs.YtgcbfggoddkhnaaGreatDoor
namespace Go.Proofs.YtgcbfggoddkhnaaGreatDoor
open Go.RowKit
theorem ints_at {p : List Nat} {k u : Nat} (h : p[k]? = some u) : (ints p)[k]? = some (u : Int) := by simp [ints, h]
def CmpRel (w : World) (p q : List Nat) (k : Nat) (i : Value) (wr : World) : Prop :=
 ∃ m, m + k = p.length ∧ m ≤ q.length ∧ i = .int .i64 (m : Int) ∧ (∀ k x y, k < m → p[k]? = some x → q[k]? = some y → cmpN x y = 0) ∧ w = wr
set_option maxRecDepth 100000 in
theorem slicesCompare_any {w : World} {A1 A2 : Option Addr} {c1 c2 B : Nat} {p q : List Nat} (h1 : Ints w B A1 (ints p)) (h2 : Ints w B A2 (ints q)) (hp : p.length ≤ 140737488351232) (hq : q.length ≤ 140737488351232) :
  Calls Tryz.prog 125 #[.slice A1 p.length c1, .slice A2 q.length c2] w fun e w' => e = .returned (.int .i64 (lex cmpN p q)) ∧ w = w' := by
 have H1 := Lib.hid h1
 have H2 := Lib.hid h2
 clear h1 h2
 go_enter Tryz.func125, Tryz.ntmps125
 go_wp2_with fail
 go_loopg [11] p.length (fun k i wr => CmpRel w p q k i wr)
 case atStart => exact ⟨0, by simp, by simp, rfl, fun k x y hk => by omega, rfl⟩
 case round =>
  obtain ⟨m, hmk, hmq, hi, hall, hw⟩ := hrel
  subst hi hw
  have HL := Lib.hid (lex_drop m p q hall (by omega) hmq)
  have HA := Lib.hid hall
  clear hall
  cases gk with
  | zero =>
   have hmp : m = p.length := by omega
   subst hmp
   rw [List.drop_length] at HL
   by_cases hlt : p.length < q.length
   · have HV : Hid (lex cmpN p q = -1) := by
       rw [Hid, ← HL.out]
       cases hd : q.drop p.length with
       | nil => rw [List.drop_eq_nil_iff] at hd; omega
       | cons a r => rfl
     go_wp2_with fail
     go_ret
     exact ⟨by rw [HV.out]; rfl, rfl⟩
   · have HV : Hid (lex cmpN p q = 0) := by
       rw [Hid, ← HL.out, List.drop_eq_nil_of_le (by omega)]
       rfl
     go_wp2_with fail
     go_ret
     exact ⟨by rw [HV.out]; rfl, rfl⟩
  | succ j =>
   have hm : m < p.length := by omega
   obtain ⟨x, hx⟩ : ∃ x, p[m]? = some x := ⟨_, List.getElem?_eq_getElem hm⟩
   obtain ⟨b, o, rfl, hlt, hcells⟩ := H1.out.2 (by rw [ints_length]; omega)
   have cx := hcells m x (ints_at hx)
   have dx : p.drop m = x :: p.drop (m + 1) := by
     obtain ⟨h1, h2⟩ := List.getElem?_eq_some_iff.1 hx
     rw [← h2]
     exact List.drop_eq_getElem_cons h1
   have HM := Lib.hid hmk
   clear hmk hcells
   by_cases hge : q.length ≤ m
   · have HV : Hid (lex cmpN p q = 1) := by
       rw [Hid, ← HL.out, dx, List.drop_eq_nil_of_le hge]
       rfl
     clear hx dx
     go_wp2_with fail
     go_ret
     exact ⟨by rw [HV.out]; rfl, rfl⟩
   · have hm2 : m < q.length := by omega
     obtain ⟨y, hy⟩ : ∃ y, q[m]? = some y := ⟨_, List.getElem?_eq_getElem hm2⟩
     obtain ⟨b2, o2, rfl, hlt2, hcells2⟩ := H2.out.2 (by rw [ints_length]; omega)
     have cy := hcells2 m y (ints_at hy)
     have dy : q.drop m = y :: q.drop (m + 1) := by
       obtain ⟨h1, h2⟩ := List.getElem?_eq_some_iff.1 hy
       rw [← h2]
       exact List.drop_eq_getElem_cons h1
     have H29 : Hid (Calls Tryz.prog 143 #[.int .i64 (x : Int), .int .i64 (y : Int)] w fun e w' => e = .returned (.int .i64 (cmpN x y)) ∧ w' = w) := Tryz.cmp_Compare_int (x : Int) (y : Int) w
     by_cases hz : cmpN x y = 0
     · rw [hz] at H29
       have HA2 : Hid (∀ k x y, k < m + 1 → p[k]? = some x → q[k]? = some y → cmpN x y = 0) := fun k a b hk ha hb => by
        by_cases e : k = m
        · subst e
          rw [hx] at ha
          rw [hy] at hb
          cases ha
          cases hb
          exact hz
        · exact HA.out k a b (by omega) ha hb
       clear hz hx hy dx dy hcells2 hge
       go_wp2_with (go_at_call 143; refine H29.out.mono ?_; rintro e w' ⟨rfl, rfl⟩)
       go_roundg j
       case measure => omega
       case rel => exact ⟨m + 1, by have := HM.out; omega, by omega, by go_num, HA2.out, rfl⟩
     · have HV : Hid (lex cmpN p q = cmpN x y) := by
        rw [Hid, ← HL.out, dx, dy]
        show (if cmpN x y = 0 then _ else _) = _
        rw [if_neg hz]
       obtain ⟨z, hze⟩ : ∃ z, z = cmpN x y := ⟨_, rfl⟩
       rw [← hze] at H29 HV hz
       have hz2 : (z != 0) = true := by simpa using hz
       clear hze hx hy dx dy hcells2 hge
       go_wp2_with (go_at_call 143; refine H29.out.mono ?_; rintro e w' ⟨rfl, rfl⟩)
       go_ret
       exact ⟨by rw [HV.out]; rfl, rfl⟩
def OrRel (w : World) (a b : Int) (k : Nat) (i : Value) (wr : World) : Prop :=
 ∃ m, m + k = 2 ∧ i = .int .i64 (m : Int) ∧ (0 < m → a = 0) ∧ (1 < m → b = 0) ∧ w = wr
set_option maxRecDepth 100000 in
theorem or_any {w : World} {g : Nat} {a b z : Int} (hz0 : z = if a = 0 then b else a) (c0 : w.cell? ⟨g, 0, none⟩ = some (.int .i64 a)) (c1 : w.cell? ⟨g, 1, none⟩ = some (.int .i64 b)) :
  Calls Tryz.prog 142 #[.slice (some ⟨g, 0, none⟩) 2 2] w fun e w' => e = .returned (.int .i64 z) ∧ w = w' := by
 have HZ0 := Lib.hid hz0
 clear hz0
 go_enter Tryz.func142, Tryz.ntmps142
 go_wp2_with fail
 go_loopg [8] 2 (fun k i wr => OrRel w a b k i wr)
 case atStart => exact ⟨0, rfl, rfl, fun h => by omega, fun h => by omega, rfl⟩
 case round =>
  obtain ⟨m, hmk, hi, ha, hb, hw⟩ := hrel
  subst hi hw
  match gk, m, hmk with
  | 0, 2, _ =>
   have HV : Hid (z = 0) := by rw [Hid, HZ0.out, if_pos (ha (by omega)), hb (by omega)]
   clear ha hb
   go_wp2_with fail
   go_ret
   exact ⟨by rw [HV.out]; rfl, rfl⟩
  | 1, 1, _ =>
   have ha0 := ha (by omega)
   have HV : Hid (z = b) := by rw [Hid, HZ0.out]; exact if_pos ha0
   have HA := Lib.hid ha0
   by_cases hz : b = 0
   · subst hz
     clear ha hb ha0
     go_wp2_with fail
     go_roundg 0
     case measure => omega
     case rel => exact ⟨2, rfl, rfl, fun _ => HA.out, fun _ => rfl, rfl⟩
   · have hz2 : (b != 0) = true := by simpa using hz
     clear ha hb ha0
     go_wp2_with fail
     go_ret
     exact ⟨by rw [HV.out]; rfl, rfl⟩
  | 2, 0, _ =>
   clear ha hb
   by_cases hz : a = 0
   · subst hz
     go_wp2_with fail
     go_roundg 1
     case measure => omega
     case rel => exact ⟨1, rfl, rfl, fun _ => rfl, fun h => by omega, rfl⟩
   · have hz2 : (a != 0) = true := by simpa using hz
     have HV : Hid (z = a) := by rw [Hid, HZ0.out]; exact if_neg hz
     go_wp2_with fail
     go_ret
     exact ⟨by rw [HV.out]; rfl, rfl⟩
set_option maxRecDepth 100000 in
theorem compare_more {w : World} {a b : List UInt8} (h : Env w) (ha : a.length ≤ 140737488351232) (hb : b.length ≤ 140737488351232) :
   Calls Tryz.prog 103 #[.string (str a), .string (str b)] w fun e w' => RetB w (.int .i64 (cmpC a b)) e w' ∧ ((catOf a).isSome = true ∧ (catOf b).isSome = true → w.drawn ≤ w'.drawn) := by
 have HE := Lib.hid h
 have H8 := Lib.hid (parse_any h ha)
 clear h
 go_enter Tryz.func103, Tryz.ntmps103
 go_wp2_with fail
 refine H8.out.mono ?_
 rintro e w1 ⟨hb1, hp1⟩
 have B1 := Lib.hid hb1
 have E1 := Lib.hid (HE.out.on hb1)
 have H8' := Lib.hid (parse_any E1.out hb)
 clear hb1 H8
 rcases hp1 with ⟨p, n, v, hc1, rfl, hrow1, hd1⟩ | ⟨hc1, rfl⟩
 · have C1 := Lib.hid hc1
   have R1 := Lib.hid hrow1
   have D1 := Lib.hid hd1
   clear hc1 hrow1 hd1
   go_wp2_with fail
   refine H8'.out.mono ?_
   rintro e w2 ⟨hb2, (⟨q, k, u, hc2, rfl, hrow2, hd2⟩ | ⟨hc2, rfl⟩)⟩
   · have B2 := Lib.hid (B1.out.trans (hb2.mono B1.out.size))
     have D2 : Hid ((catOf a).isSome = true ∧ (catOf b).isSome = true → w.drawn ≤ w2.drawn) := fun _ => Nat.le_trans D1.out hd2
     have HV : Hid (cmpC a b = cmpP (p, n) (q, k)) := by unfold Hid cmpC; rw [C1.out, hc2]
     have hf1 := (catOf_iff.1 C1.out).1
     have hf2 := (catOf_iff.1 hc2).1
     obtain ⟨A1, cc1, rfl, hI1⟩ := (R1.out.below hb2).ints (fun u hu => by have := hf1.1.2 u hu; omega)
     obtain ⟨A2, cc2, rfl, hI2⟩ := hrow2.ints (fun u hu => by have := hf2.1.2 u hu; omega)
     have hl1 : p.length ≤ 6 := hf1.1.1
     have hl2 : q.length ≤ 6 := hf2.1.1
     have H28 := Lib.hid (slicesCompare_any (c1 := cc1) (c2 := cc2) hI1 hI2 (by omega) (by omega))
     have H29 : Hid (Calls Tryz.prog 143 #[.int .i64 (n : Int), .int .i64 (k : Int)] w2 fun e w' => e = .returned (.int .i64 (cmpN n k)) ∧ w' = w2) := Tryz.cmp_Compare_int (n : Int) (k : Int) w2
     obtain ⟨x, hx⟩ : ∃ x, x = lex cmpN p q := ⟨_, rfl⟩
     obtain ⟨y, hy⟩ : ∃ y, y = cmpN n k := ⟨_, rfl⟩
     have HX : Hid (cmpC a b = if x = 0 then y else x) := by rw [Hid, HV.out, hx, hy]; rfl
     rw [← hx] at H28
     rw [← hy] at H29
     obtain ⟨z, hz⟩ : ∃ z, z = if x = 0 then y else x := ⟨_, rfl⟩
     have H27 : Hid (Calls Tryz.prog 142 #[.slice (some ⟨w2.heap.size, 0, none⟩) 2 2] (w2.alloc (.cells #[.int .i64 x, .int .i64 y] 3)) fun e w' => e = .returned (.int .i64 z) ∧ w2.alloc (.cells #[.int .i64 x, .int .i64 y] 3) = w') := or_any hz (by simp) (by simp)
     rw [← hz] at HX
     clear hx hy hz hI1 hI2 hf1 hf2 hc2 hrow2 hb2 R1 HV hd2
     go_wp2_with (first
      | (go_at_call 125; refine H28.out.mono ?_; rintro e w' ⟨rfl, rfl⟩)
      | (go_at_call 143; refine H29.out.mono ?_; rintro e w' ⟨rfl, rfl⟩)
      | (go_at_call 142; refine H27.out.mono ?_; rintro e w' ⟨rfl, rfl⟩))
     go_ret
     exact ⟨⟨by rw [HX.out]; rfl, B2.out.alloc B2.out.size _⟩, D2.out⟩
   · have B2 := Lib.hid (B1.out.trans (hb2.mono B1.out.size))
     have HV : Hid (cmpC a b = -1) := by unfold Hid cmpC; rw [C1.out, hc2]
     have HNo : Hid (¬ ((catOf a).isSome = true ∧ (catOf b).isSome = true)) := by rw [hc2]; exact fun h => by simp at h
     clear hc2 hb2 R1
     go_wp2_with fail
     go_ret
     exact ⟨⟨by rw [HV.out]; rfl, B2.out⟩, fun h => absurd h HNo.out⟩
 · have C1 := Lib.hid hc1
   clear hc1
   go_wp2_with fail
   refine H8'.out.mono ?_
   rintro e w2 ⟨hb2, (⟨q, k, u, hc2, rfl, hrow2, hd2⟩ | ⟨hc2, rfl⟩)⟩
   · have B2 := Lib.hid (B1.out.trans (hb2.mono B1.out.size))
     have HV : Hid (cmpC a b = 1) := by unfold Hid cmpC; rw [C1.out, hc2]
     have HNo : Hid (¬ ((catOf a).isSome = true ∧ (catOf b).isSome = true)) := by rw [C1.out]; exact fun h => by simp at h
     clear hc2 hb2 hrow2 hd2
     go_wp2_with fail
     go_ret
     exact ⟨⟨by rw [HV.out]; rfl, B2.out⟩, fun h => absurd h HNo.out⟩
   · have B2 := Lib.hid (B1.out.trans (hb2.mono B1.out.size))
     have HV : Hid (cmpC a b = Lib.compareBytes a b) := by unfold Hid cmpC; rw [C1.out, hc2]
     have HNo : Hid (¬ ((catOf a).isSome = true ∧ (catOf b).isSome = true)) := by rw [C1.out]; exact fun h => by simp at h
     have H30 := Lib.hid (Tryz.strings_Compare (str a) (str b) w2)
     rw [str_list, str_list] at H30
     clear hc2 hb2
     go_wp2_with (go_at_call 144; refine H30.out.mono ?_; rintro e w' ⟨rfl, rfl⟩)
     go_ret
     exact ⟨⟨by rw [HV.out]; rfl, B2.out⟩, fun h => absurd h HNo.out⟩
theorem compare_any {w : World} {a b : List UInt8} (h : Env w) (ha : a.length ≤ 140737488351232) (hb : b.length ≤ 140737488351232) :
 Calls Tryz.prog 103 #[.string (str a), .string (str b)] w (RetB w (.int .i64 (cmpC a b))) := (compare_more h ha hb).mono fun _ _ h => h.1
end Go.Proofs.YtgcbfggoddkhnaaGreatDoor
namespace Go.Proofs.YtgcbfggoddkhnaaGreatDoor
open Go.RowKit
set_option maxRecDepth 100000 in
theorem entryError_any {w : World} {s : List UInt8} {n : Int} (h : Env w) (hn : s.length ≤ 140737488351232) :
  Calls Tryz.prog 102 #[.agg #[.string (str s), .int .i64 n]] w (RetB w (.int .i64 (entErr (s, n)))) := by
 have H54 := Lib.hid (right_any (w := w.alloc (.cells #[.string (str s), .int .i64 n] 42)) (h.below ((Below.refl _ _).alloc (Nat.le_refl _) _) h.1) hn)
 have hA : Below w.heap.size w (w.alloc (.cells #[.string (str s), .int .i64 n] 42)) := (Below.refl _ _).alloc (Nat.le_refl _) _
 have HA := Lib.hid hA
 have k1 : (w.alloc (.cells #[.string (str s), .int .i64 n] 42)).cell? ⟨w.heap.size, 1, none⟩ = some (.int .i64 n) := by simp
 have K1 := Lib.hid k1
 have hs1 : w.heap.size < (w.alloc (.cells #[.string (str s), .int .i64 n] 42)).heap.size := by simp
 have HS := Lib.hid hs1
 clear hA k1 hs1 h
 cases hc : (catOf s).isSome with
 | false =>
  have HD : Hid (entErr (s, n) = 20) := by unfold Hid entErr; rw [if_pos hc]
  rw [hc] at H54
  go_enter Tryz.func102, Tryz.ntmps102
  go_wp2_with fail
  refine H54.out.mono ?_
  rintro e w1 ⟨rfl, hb1⟩
  have B1 := Lib.hid (HA.out.trans (hb1.mono HA.out.size))
  clear hb1
  go_wp2_with fail
  go_ret
  exact ⟨by rw [HD.out]; rfl, B1.out⟩
 | true =>
  rw [hc] at H54
  go_enter Tryz.func102, Tryz.ntmps102
  go_wp2_with fail
  refine H54.out.mono ?_
  rintro e w1 ⟨rfl, hb1⟩
  have B1 := Lib.hid (HA.out.trans (hb1.mono HA.out.size))
  have c1 : w1.cell? ⟨w.heap.size, 1, none⟩ = some (.int .i64 n) := (hb1.cell (p := ⟨w.heap.size, 1, none⟩) HS.out).trans K1.out
  clear hb1
  by_cases h0 : n < 0
  · have HD : Hid (entErr (s, n) = 21) := by unfold Hid entErr; rw [hc, if_neg (by decide), if_pos (.inl h0)]
    go_wp2_with fail
    go_ret
    exact ⟨by rw [HD.out]; rfl, B1.out⟩
  · by_cases h3 : n > 3
    · have HD : Hid (entErr (s, n) = 21) := by unfold Hid entErr; rw [hc, if_neg (by decide), if_pos (.inr h3)]
      go_wp2_with fail
      go_ret
      exact ⟨by rw [HD.out]; rfl, B1.out⟩
    · have HD : Hid (entErr (s, n) = 0) := by unfold Hid entErr; rw [hc, if_neg (by decide), if_neg (by simp; omega)]
      go_wp2_with fail
      go_ret
      exact ⟨by rw [HD.out]; rfl, B1.out⟩
def LevRel (w : World) (l : List Ent) (c : List UInt8) (k : Nat) (i : Value) (wr : World) : Prop :=
 ∃ m, m + k = l.length ∧ i = .int .i64 (m : Int) ∧ (∀ x ∈ l.take m, x.1 ≠ c) ∧ Below w.heap.size w wr
theorem take_no {l : List Ent} {m : Nat} {e : Ent} {P : Ent → Prop} (h : l[m]? = some e) (hno : ∀ x ∈ l.take m, P x) (he : P e) : ∀ x ∈ l.take (m + 1), P x := fun x hx => by
 rw [List.take_add_one, h] at hx
 rcases List.mem_append.1 hx with h1 | h1
 · exact hno x h1
 · simp at h1
   subst h1
   exact he
set_option maxRecDepth 100000 in
theorem level_any {w : World} {A : Option Addr} {c : Nat} {l : List Ent} {s : List UInt8} (hl : Ents w w.heap.size A l) (hn : l.length ≤ 100000000) :
  Calls Tryz.prog 156 #[.slice A l.length c, .string (str s)] w (RetB w (.int .i64 (lev l s))) := by
 have HL := Lib.hid hl
 clear hl
 go_enter Tryz.func156, Tryz.ntmps156
 go_wp2_with fail
 go_loopg [9] l.length (fun k i wr => LevRel w l s k i wr)
 case atStart => exact ⟨0, by simp, rfl, by simp, Below.refl _ _⟩
 case round =>
  obtain ⟨m, hmk, hi, hno, hb⟩ := hrel
  subst hi
  have HB := Lib.hid hb
  have HN := Lib.hid hno
  have hsz := hb.size
  cases gk with
  | zero =>
   have hge : l.length ≤ m := by omega
   have HD : Hid (lev l s = 1) := lev_none (by have := HN.out; rwa [List.take_of_length_le hge] at this)
   clear hno hb
   go_wp2_with fail
   go_ret
   exact ⟨by rw [HD.out]; rfl, HB.out⟩
  | succ j =>
   have hm : m < l.length := by omega
   obtain ⟨⟨t, n⟩, hx⟩ : ∃ x, l[m]? = some x := ⟨_, List.getElem?_eq_getElem hm⟩
   obtain ⟨b, o, rfl, hlt, hcells⟩ := (HL.out.below hb) (by omega)
   obtain ⟨c1, c2⟩ := hcells m t n hx
   have hlt2 : b < wr.heap.size := by omega
   have HM := Lib.hid hmk
   have HX := Lib.hid hx
   by_cases he : t = s
   · have HD : Hid (lev l s = n) := lev_hit HX.out HN.out he
     have hq := str_same he
     clear hcells hx hmk hno hb he
     go_wp2_with fail
     go_ret
     exact ⟨by rw [HD.out]; rfl, HB.out.alloc hsz _⟩
   · have HN2 := Lib.hid (take_no (P := fun x => x.1 ≠ s) HX.out HN.out he)
     have hq := str_differs he
     clear hcells hx hmk hno hb he
     go_wp2_with fail
     go_roundg j
     case measure => omega
     case rel => exact ⟨m + 1, by have := HM.out; omega, by go_num, HN2.out, HB.out.alloc hsz _⟩
end Go.Proofs.YtgcbfggoddkhnaaGreatDoor
