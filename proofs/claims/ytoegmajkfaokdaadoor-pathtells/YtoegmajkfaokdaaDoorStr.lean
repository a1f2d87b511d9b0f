/- Slices of strings as they lie; rows of strings of the call's own. -/
import Derived.Test.YtoegmajkfaokdaaDoorC
import Derived.Maps.AppendAt
import Derived.Laws.OwnMore
namespace Go.Proofs.YtoegmajkfaokdaaDoor
open Go.RowKit Go.Shelf

theorem grown_of_below {W W' : World} (h : Below W.heap.size W W') : W.grownBy W' none := ⟨h.os, h.tape, h.output, h.size, fun i hi _ => h.block i hi⟩
/-- It answers true; only new memory is written. -/
def Fine (w : World) (e : Ending) (w' : World) : Prop := e = .returned (.bool true) ∧ Below w.heap.size w w'

/-- A slice of strings, as it lies below block B. -/
def Strs (w : World) (B : Nat) (A : Option Addr) (l : List (List UInt8)) : Prop :=
  0 < l.length → ∃ b o, A = some ⟨b, o, none⟩ ∧ b < B ∧ ∀ (k : Nat) (x : List UInt8), l[k]? = some x → w.cell? ⟨b, o + k, none⟩ = some (.string (str x))
theorem Strs.below {w w' : World} {B : Nat} {A : Option Addr} {l : List (List UInt8)} (h : Strs w B A l) (hb : Below B w w') : Strs w' B A l := fun hp => by
  obtain ⟨b, o, hA, hlt, hc⟩ := h hp
  exact ⟨b, o, hA, hlt, fun k c hk => (hb.cell (p := ⟨b, o + k, none⟩) hlt).trans (hc k c hk)⟩
theorem Strs.more {w : World} {B B' : Nat} {A : Option Addr} {l : List (List UInt8)} (h : Strs w B A l) (hB : B ≤ B') : Strs w B' A l := fun hp => by
  obtain ⟨b, o, hA, hlt, hc⟩ := h hp
  exact ⟨b, o, hA, by omega, hc⟩

/-- Strings as cells. -/
def strCellsOf (R : List (List UInt8)) : List Value := R.map fun x => Value.string (str x)
/-- A row of strings of its own, from block B on. -/
def StrRow (w : World) (B : Nat) (v : Value) (R : List (List UInt8)) : Prop := w.ownsRow B 9 1 v R.length (strCellsOf R)
theorem StrRow.below {w w' : World} {B : Nat} {v : Value} {R : List (List UInt8)} (h : StrRow w B v R) (hb : Below w.heap.size w w') : StrRow w' B v R :=
  World.ownsRow.kept (row := Option.none) h (grown_of_below hb) (by cases v.ownBlock <;> simp)
theorem StrRow.slice {w : World} {B : Nat} {v : Value} {R : List (List UInt8)} (h : StrRow w B v R) : ∃ A c, v = .slice A R.length c := by
  have h0 : w.ownsRow B 9 1 v R.length (strCellsOf R) := h
  rcases h0.2 with ⟨rfl, he⟩ | ⟨g, cap, cur, rfl, _⟩
  · exact ⟨none, 0, by rw [he]⟩
  · exact ⟨_, _, rfl⟩
theorem StrRow.strs {w : World} {B : Nat} {v : Value} {R : List (List UInt8)} (h : StrRow w B v R) : ∃ A c, v = .slice A R.length c ∧ Strs w w.heap.size A R := by
  have h0 : w.ownsRow B 9 1 v R.length (strCellsOf R) := h
  rcases h0.2 with ⟨rfl, he⟩ | ⟨g, cap, cur, rfl, hb, hh, hcc⟩
  · exact ⟨none, 0, by rw [he], fun h => by omega⟩
  · refine ⟨_, cap, rfl, fun _ => ⟨g, 0, rfl, (h0.lt g rfl).2, fun k x hk => ?_⟩⟩
    have := h0.cells (g := g) rfl k (.string (str x)) (by simp [strCellsOf, hk])
    rwa [Go.WideShapes.add_plain] at this

theorem Tryd.info9 : (Tryd.prog.info? 9).map (fun i => (i.zero, i.size, i.bytes)) = some (some (.string ⟨#[]⟩), 1, 16) := by kernel_rfl

/-- append(right, s), right a row of strings of the call's own. -/
theorem wpList_append_one {w : World} {ops : Array Oper} {rest : List Oper} {o : Oper} {a : Act} {Q : Exit → Act → World → Prop} (hgd : o.guard = none) (s x : Operand)
    (ho : o.op = .call { callee := .builtin .append, args := #[s, x], argTypes := #[63, 63] }) (base : Nat) (v : Value) (R : List (List UInt8)) (hs : a.eval s = v)
    (hown : StrRow w base v R) (ad : Addr) (u : List UInt8) (hxe : a.eval x = .slice (some ad) 1 1) (hc : ∀ j y, [Value.string (str u)][j]? = some y → w.cell? (ad.add j) = some y)
    (hn : R.length + 1 ≤ 1000001) (hbase : base ≤ w.heap.size)
    (h : ∀ v' w', StrRow w' base v' (R ++ [u]) → Below base w w' → wpList Tryd.prog ops Q rest (a.put o.dst v') w') : wpList Tryd.prog ops Q (o :: rest) a w := by
  obtain ⟨i0, hi, hz0, hz1, hz2⟩ := info_parts Tryd.info9
  refine wpList_append_own w hgd s x 63 ho base 9 i0 _ 1 16 Tryd.underlying63 hi hz0 hz1 hz2 rfl (by decide) v R.length _ hs hown ad 1 1 [.string (str u)] hxe rfl hc (by simp [Value.oneCell']) (by unfold maxLen; omega) (by omega) hbase ?_
  intro v' w' h1 h2 _
  refine h v' w' (by unfold StrRow strCellsOf; rw [List.map_append, List.length_append]; exact h1) ((Below.refl base w).grown h2 hbase fun k e => ?_)
  exact (World.ownsRow.lt hown k e).1

end Go.Proofs.YtoegmajkfaokdaaDoor
