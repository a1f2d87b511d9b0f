/- append of entries of another named slice type. -/
import Derived.Test.YtglidfmgechneaaGreatDoorCc
namespace Go.Proofs.YtglidfmgechneaaGreatDoor
open Go.RowKit Go.Shelf

theorem append_types (ty : TypeId) (b1 b2 : Option Addr) (l1 l2 c1 c2 : Nat) (w : World) : (Builtin.append_ #[42, 43] ty #[.slice b1 l1 c1, .slice b2 l2 c2]).run Tryz.prog w = (Builtin.append_ #[42, 42] ty #[.slice b1 l1 c1, .slice b2 l2 c2]).run Tryz.prog w := by
  simp only [Builtin.append_, List.getElem?_toArray, List.getElem?_cons_zero, List.getElem?_cons_succ, Sem.run_bind, run_underlying Tryz.underlying42, run_underlying Tryz.underlying43, Result.andThen_ok]

/-- append(out, l...), out a row of entries of the call's own, l a label. -/
theorem wpList_append_lab {w : World} {ops : Array Oper} {rest : List Oper} {o : Oper} {a : Act} {Q : Exit → Act → World → Prop} (hgd : o.guard = none) (s x : Operand)
    (ho : o.op = .call { callee := .builtin .append, args := #[s, x], argTypes := #[42, 43] }) (base : Nat) (v : Value) (ys : List Ent) (hs : a.eval s = v)
    (hown : EntRow w base v ys) (B : Nat) (A : Option Addr) (c : Nat) (xs : List Ent) (hxe : a.eval x = .slice A xs.length c) (hx : Ents w B A xs) (hc : A = none → c = 0)
    (hn : ys.length + xs.length ≤ 1000001) (hbase : base ≤ w.heap.size)
    (h : ∀ v' w', EntRow w' base v' (ys ++ xs) → Below base w w' → wpList Tryz.prog ops Q rest (a.put o.dst v') w') : wpList Tryz.prog ops Q (o :: rest) a w := by
  obtain ⟨i0, hi, hz0, hz1, hz2⟩ := info_parts Tryz.info52
  obtain ⟨A0, c0, hv, _, _⟩ := hown.ents
  subst hv
  refine wpList_plain hgd fun K hK => ?_
  cases A with
  | none =>
    have hx0 := hx.none
    subst hx0
    rw [hc rfl] at hxe
    have hrun := run_append_owned_none (P := Tryz.prog) (w := w) base 42 o.type 52 i0 2 Tryz.underlying42 hi _ ys.length _ hown
    unfold Oper.wp
    simp [execOp, ho, resolve, invoke, builtin, hs, hxe, append_types, hrun, Result.andThen]
    exact hK _ _ (h _ w (by simpa using hown) (Below.refl _ _))
  | some ad =>
    obtain ⟨v', w', hr, h2, h3, _⟩ := run_append_own (P := Tryz.prog) w base 42 o.type 52 i0 _ 2 24 Tryz.underlying42 hi hz0 hz1 hz2 rfl (by decide) _ ys.length _ hown ad xs.length c (entCells xs) (entCells_length xs) hx.cells (entCells_one xs) (by unfold maxLen; omega) (by omega) hbase
    unfold Oper.wp
    simp [execOp, ho, resolve, invoke, builtin, hs, hxe, append_types, hr, Result.andThen]
    refine hK _ _ (h v' w' (by unfold EntRow; rw [entCells_append, List.length_append]; exact h2) ((Below.refl base w).grown h3 hbase fun k e => ?_))
    exact (World.ownsRow.lt hown k e).1
/-- An empty slice of entries, just laid. -/
theorem entRow_empty (w : World) : EntRow (w.alloc (.cells #[] 52)) w.heap.size (.slice (some ⟨w.heap.size, 0, none⟩) 0 0) [] :=
  World.ownsRow_made w #[] 0 (Nat.le_refl _) (by unfold maxLen; omega) rfl
end Go.Proofs.YtglidfmgechneaaGreatDoor
