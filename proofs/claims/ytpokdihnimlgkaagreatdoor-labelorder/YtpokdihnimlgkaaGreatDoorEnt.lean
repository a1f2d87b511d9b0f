/- Slices of entries as they lie; rows of entries of the call's own. -/
import Derived.Test.YtpokdihnimlgkaaGreatDoorStr
import Derived.Laws.AppendOwnNone
namespace Go.Proofs.YtpokdihnimlgkaaGreatDoor
open Go.RowKit Go.Shelf

/-- An entry: a category's text and a level. -/
abbrev Ent := List UInt8 × Int

/-- A slice of entries, as it lies below block B. -/
def Ents (w : World) (B : Nat) (A : Option Addr) (l : List Ent) : Prop :=
  0 < l.length → ∃ b o, A = some ⟨b, o, none⟩ ∧ b < B ∧
    ∀ (k : Nat) (s : List UInt8) (n : Int), l[k]? = some (s, n) → w.cell? ⟨b, o + k * 2, none⟩ = some (.string (str s)) ∧ w.cell? ⟨b, o + k * 2 + 1, none⟩ = some (.int .i64 n)
theorem Ents.below {w w' : World} {B : Nat} {A : Option Addr} {l : List Ent} (h : Ents w B A l) (hb : Below B w w') : Ents w' B A l := fun hp => by
  obtain ⟨b, o, hA, hlt, hc⟩ := h hp
  refine ⟨b, o, hA, hlt, fun k s n hk => ?_⟩
  obtain ⟨c1, c2⟩ := hc k s n hk
  exact ⟨(hb.cell (p := ⟨b, o + k * 2, none⟩) hlt).trans c1, (hb.cell (p := ⟨b, o + k * 2 + 1, none⟩) hlt).trans c2⟩
theorem Ents.more {w : World} {B B' : Nat} {A : Option Addr} {l : List Ent} (h : Ents w B A l) (hB : B ≤ B') : Ents w B' A l := fun hp => by
  obtain ⟨b, o, hA, hlt, hc⟩ := h hp
  exact ⟨b, o, hA, by omega, hc⟩
theorem Ents.nil (w : World) (B : Nat) (A : Option Addr) : Ents w B A [] := fun h => absurd h (by simp)
theorem Ents.none {w : World} {B : Nat} {l : List Ent} (h : Ents w B none l) : l = [] := by
  cases l with
  | nil => rfl
  | cons x r => obtain ⟨b, o, hA, _⟩ := h (by simp); cases hA

/-- Entries as cells. -/
def entCells : List Ent → List Value
  | [] => []
  | (s, n) :: r => .string (str s) :: .int .i64 n :: entCells r
theorem entCells_append (a b : List Ent) : entCells (a ++ b) = entCells a ++ entCells b := by
  induction a with
  | nil => rfl
  | cons x r ih => obtain ⟨s, n⟩ := x; simp [entCells, ih]
theorem entCells_length (l : List Ent) : (entCells l).length = l.length * 2 := by
  induction l with
  | nil => rfl
  | cons x r ih => obtain ⟨s, n⟩ := x; simp [entCells, ih]; omega
theorem entCells_get {l : List Ent} : ∀ {j : Nat} {u : Value}, (entCells l)[j]? = some u → ∃ (k : Nat) (s : List UInt8) (n : Int), l[k]? = some (s, n) ∧ ((j = k * 2 ∧ u = .string (str s)) ∨ (j = k * 2 + 1 ∧ u = .int .i64 n)) := by
  induction l with
  | nil => intro j u h; simp [entCells] at h
  | cons x r ih =>
    intro j u h
    obtain ⟨s, n⟩ := x
    match j, h with
    | 0, h => simp [entCells] at h; exact ⟨0, s, n, rfl, .inl ⟨rfl, h.symm⟩⟩
    | 1, h => simp [entCells] at h; exact ⟨0, s, n, rfl, .inr ⟨rfl, h.symm⟩⟩
    | j + 2, h =>
      obtain ⟨k, s', n', hk, hj⟩ := ih (j := j) (u := u) (by simpa [entCells] using h)
      refine ⟨k + 1, s', n', by simpa using hk, ?_⟩
      rcases hj with ⟨rfl, hu⟩ | ⟨rfl, hu⟩
      · exact .inl ⟨by omega, hu⟩
      · exact .inr ⟨by omega, hu⟩
theorem entCells_one (l : List Ent) : ∀ u ∈ entCells l, u.oneCell' = true := by
  intro u hu
  obtain ⟨j, hj⟩ := List.mem_iff_getElem?.1 hu
  obtain ⟨k, s, n, _, ⟨_, rfl⟩ | ⟨_, rfl⟩⟩ := entCells_get hj <;> rfl
theorem entCells_at {l : List Ent} {k : Nat} {s : List UInt8} {n : Int} (h : l[k]? = some (s, n)) : (entCells l)[k * 2]? = some (.string (str s)) ∧ (entCells l)[k * 2 + 1]? = some (.int .i64 n) := by
  induction l generalizing k with
  | nil => simp at h
  | cons x r ih =>
    obtain ⟨s', n'⟩ := x
    cases k with
    | zero => simp at h; obtain ⟨rfl, rfl⟩ := h; simp [entCells]
    | succ k =>
      have := ih (k := k) (by simpa using h)
      rw [show (k + 1) * 2 = k * 2 + 1 + 1 by omega]
      simpa [entCells] using this
theorem Ents.cells {w : World} {B : Nat} {a : Addr} {l : List Ent} (h : Ents w B (some a) l) : ∀ j u, (entCells l)[j]? = some u → w.cell? (a.add j) = some u := by
  intro j u hu
  obtain ⟨k, s, n, hk, hj⟩ := entCells_get hu
  have hp : 0 < l.length := by
    have := (List.getElem?_eq_some_iff.1 hk).1
    omega
  obtain ⟨b, o, hA, _, hc⟩ := h hp
  injection hA with hA
  subst hA
  obtain ⟨c1, c2⟩ := hc k s n hk
  rw [Go.WideShapes.add_plain]
  rcases hj with ⟨rfl, rfl⟩ | ⟨rfl, rfl⟩
  · exact c1
  · rw [← Nat.add_assoc]; exact c2

/-- A row of entries of its own, from block B on. -/
def EntRow (w : World) (B : Nat) (v : Value) (l : List Ent) : Prop := w.ownsRow B 33 2 v l.length (entCells l)
theorem EntRow.below {w w' : World} {B : Nat} {v : Value} {l : List Ent} (h : EntRow w B v l) (hb : Below w.heap.size w w') : EntRow w' B v l :=
  World.ownsRow.kept (row := Option.none) h (grown_of_below hb) (by cases v.ownBlock <;> simp)
theorem EntRow.ents {w : World} {B : Nat} {v : Value} {l : List Ent} (h : EntRow w B v l) : ∃ A c, v = .slice A l.length c ∧ (A = none → c = 0) ∧ Ents w w.heap.size A l := by
  have h0 : w.ownsRow B 33 2 v l.length (entCells l) := h
  rcases h0.2 with ⟨rfl, he⟩ | ⟨g, cap, cur, rfl, hb, hh, hcc⟩
  · exact ⟨none, 0, by rw [he], fun _ => rfl, fun h => by omega⟩
  · refine ⟨_, cap, rfl, (fun h => by cases h), fun _ => ⟨g, 0, rfl, (h0.lt g rfl).2, fun k s n hk => ?_⟩⟩
    obtain ⟨e1, e2⟩ := entCells_at hk
    have c1 := h0.cells (g := g) rfl _ _ e1
    have c2 := h0.cells (g := g) rfl _ _ e2
    rw [Go.WideShapes.add_plain] at c1 c2
    exact ⟨c1, by rw [Nat.add_assoc]; exact c2⟩

theorem Tryz.info33 : (Tryz.prog.info? 33).map (fun i => (i.zero, i.size, i.bytes)) = some (some (.agg #[.string ⟨#[]⟩, .int .i64 0]), 2, 24) := by kernel_rfl

/-- append(out, l...), out a row of entries of the call's own, l whatever slice of entries (nil too). -/
theorem wpList_append_ents {w : World} {ops : Array Oper} {rest : List Oper} {o : Oper} {a : Act} {Q : Exit → Act → World → Prop} (hgd : o.guard = none) (s x : Operand) (t : TypeId) (ht : Tryz.prog.underlying t = some (.slice 33))
    (ho : o.op = .call { callee := .builtin .append, args := #[s, x], argTypes := #[t, t] }) (base : Nat) (v : Value) (ys : List Ent) (hs : a.eval s = v)
    (hown : EntRow w base v ys) (B : Nat) (A : Option Addr) (c : Nat) (xs : List Ent) (hxe : a.eval x = .slice A xs.length c) (hx : Ents w B A xs) (hc : A = none → c = 0)
    (hn : ys.length + xs.length ≤ 1000001) (hbase : base ≤ w.heap.size)
    (h : ∀ v' w', EntRow w' base v' (ys ++ xs) → Below base w w' → wpList Tryz.prog ops Q rest (a.put o.dst v') w') : wpList Tryz.prog ops Q (o :: rest) a w := by
  obtain ⟨i0, hi, hz0, hz1, hz2⟩ := info_parts Tryz.info33
  cases A with
  | none =>
    have hx0 := hx.none
    subst hx0
    rw [hc rfl] at hxe
    exact wpList_append_own_none hgd s x t ho base 33 i0 2 ht hi v ys.length _ hs hown hxe (h v w (by simpa using hown) (Below.refl _ _))
  | some ad =>
    refine wpList_append_own w hgd s x t ho base 33 i0 _ 2 24 ht hi hz0 hz1 hz2 rfl (by decide) v ys.length _ hs hown ad xs.length c (entCells xs) hxe (entCells_length xs) hx.cells (entCells_one xs) (by unfold maxLen; omega) (by omega) hbase ?_
    intro v' w' h1 h2 _
    refine h v' w' (by unfold EntRow; rw [entCells_append, List.length_append]; exact h1) ((Below.refl base w).grown h2 hbase fun k e => ?_)
    exact (World.ownsRow.lt hown k e).1

/-- One entry, just laid. -/
theorem ents_one (w : World) (s : List UInt8) (n : Int) : Ents (w.alloc (.cells #[.string (str s), .int .i64 n] 33)) (w.heap.size + 1) (some ⟨w.heap.size, 0, none⟩) [(s, n)] := fun _ => by
  refine ⟨w.heap.size, 0, rfl, by omega, fun k s' n' hk => ?_⟩
  cases k with
  | zero =>
    simp at hk
    obtain ⟨rfl, rfl⟩ := hk
    exact ⟨by simp, by simp⟩
  | succ k => simp at hk
end Go.Proofs.YtpokdihnimlgkaaGreatDoor
