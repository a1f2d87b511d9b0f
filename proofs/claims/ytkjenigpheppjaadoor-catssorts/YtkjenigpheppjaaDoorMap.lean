/- A map of texts to bools, as the set of texts that it holds. -/
import Derived.Test.YtkjenigpheppjaaDoorStr
import Derived.Maps.OwnSet
namespace Go.Proofs.YtkjenigpheppjaaDoor
open Go.RowKit

/-- Block b holds a map; it answers true at the texts of R, and at no other. -/
def SetIs (w : World) (b n : Nat) (R : List (List UInt8)) : Prop :=
  ∃ D : DataW Unit, w.ownsMap Tryd.prog 9 (plainElem Tryd.prog 4) b n D ∧ ∀ x : List UInt8, D.atKey (.string x) (.lit (.bool false)) = .lit (.bool (decide (x ∈ R)))
theorem SetIs.lt {w : World} {b n : Nat} {R : List (List UInt8)} (h : SetIs w b n R) : b < w.heap.size := by
  obtain ⟨D, h, _⟩ := h
  exact h.lt
theorem SetIs.below {w w' : World} {b n : Nat} {R : List (List UInt8)} (h : SetIs w b n R) (hb : Below w.heap.size w w') : SetIs w' b n R := by
  have hlt := h.lt
  obtain ⟨D, ⟨es, clock, h1, h2⟩, h3⟩ := h
  exact ⟨D, ⟨es, clock, (hb.block b hlt).trans h1, h2⟩, h3⟩
theorem SetIs.made (w : World) : SetIs (w.alloc (.map #[] 0)) w.heap.size 0 [] :=
  ⟨.map [], World.ownsMap_made w _ _ _, fun x => by simp [DataW.atKey]⟩
theorem key9 {x : List UInt8} (hx : x.length ≤ 140737488351232) : keyOf Tryd.prog 9 (.string (str x)) = some (.string x) := by
  rw [keyOf_string Tryd.underlying9]
  have h : (str x).size ≤ maxLen := by rw [str_size]; unfold maxLen; omega
  unfold mapKey
  rw [Tryd.underlying9]
  simp only [h, if_true, str_list]
set_option maxRecDepth 100000 in
theorem bool_inv {v : Value} {q : Bool} {ps : List MemPlace} (h : plainElem (H := Unit) Tryd.prog 4 v = some (.lit (.bool q), ps)) : v = .bool q := by
  unfold plainElem at h
  have hu : Tryd.prog.underlying 4 = some .bool := Tryd.underlying4
  simp only [hu] at h
  cases v <;> simp at h
  rw [h.1]
theorem SetIs.look {w : World} {b n : Nat} {R : List (List UInt8)} (h : SetIs w b n R) {x : List UInt8} (hx : x.length ≤ 140737488351232) : (Instr.lookup 42 (.map (some b)) (.string (str x)) false).run Tryd.prog w = .ok (.bool (decide (x ∈ R))) w := by
  obtain ⟨D, h, h3⟩ := h
  obtain ⟨v, ps, hrun, hv⟩ := h.lookup (Maps.string_keyed Tryd.underlying9) Tryd.underlying42 (Tryd.zeroValue4 w) (plainElem_bool Tryd.underlying4 false) (key9 hx)
  rw [h3 x] at hv
  rw [hrun, bool_inv hv]

/-- has[s] = true -/
theorem wpList_put_set {w : World} {ops : Array Oper} {rest : List Oper} {o : Oper} {a : Act} {Q : Exit → Act → World → Prop} (hg : o.guard = none) (m x v : Operand) (hop : o.op = Op.mapUpdate 42 m x v)
    (b n : Nat) (R : List (List UInt8)) (hm : a.eval m = .map (some b)) (h : SetIs w b n R) (hn : n ≤ 8796093022207) (s : List UInt8) (hsl : s.length ≤ 140737488351232) (hx : a.eval x = .string (str s)) (hv : a.eval v = .bool true)
    (hK : ∀ w', SetIs w' b (n + 1) (R ++ [s]) → w.grownBy w' (some b) → wpList Tryd.prog ops Q rest (a.put o.dst undef) w') : wpList Tryd.prog ops Q (o :: rest) a w := by
  obtain ⟨D, h, h3⟩ := h
  refine wpList_mapUpdate_own w hg m x v 42 hop 9 4 (Maps.string_keyed Tryd.underlying9) Tryd.underlying42 _ b n D hm h (by unfold maxLen; omega) _ _ _ hx hv (key9 hsl) _ [] (plainElem_bool Tryd.underlying4 true) ?_
  intro w' h1 h2
  refine hK w' ⟨_, h1, fun y => ?_⟩ h2
  by_cases e : y = s
  · subst e
    rw [Maps.atKey_put_same h.isMap (by simp [WideAt.IsKeyLit])]
    simp
  · rw [Maps.atKey_put_other (fun h => e (by injection h)), h3 y]
    simp [e]
end Go.Proofs.YtkjenigpheppjaaDoor
