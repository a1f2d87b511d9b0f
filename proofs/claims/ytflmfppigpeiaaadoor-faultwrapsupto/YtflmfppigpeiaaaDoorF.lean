/- The reference's Kept returns, in new memory, the links whose number is not OK, in their order. -/
import Derived.Test.YtflmfppigpeiaaaDoorE
namespace Go.Proofs.YtflmfppigpeiaaaDoor
open Go.RowKit

def keptL (xs : List (ByteArray × Int)) : List (ByteArray × Int) := xs.filter fun x => !(x.2 == 0)

/-- Links as cells. -/
def linkCells : List (ByteArray × Int) → List Value
  | [] => []
  | (s, n) :: r => .string s :: .int .i64 n :: linkCells r

theorem linkCells_append (a b : List (ByteArray × Int)) : linkCells (a ++ b) = linkCells a ++ linkCells b := by
  induction a with
  | nil => rfl
  | cons x r ih => obtain ⟨s, n⟩ := x; simp [linkCells, ih]

theorem take_of {xs : List (ByteArray × Int)} {j : Nat} {x : ByteArray × Int} (h : xs[j]? = some x) : xs.take (j + 1) = xs.take j ++ [x] := by
  rw [List.take_add_one, h]
  rfl

theorem keptL_hit {xs : List (ByteArray × Int)} {j : Nat} {s : ByteArray} {n : Int} (h : xs[j]? = some (s, n)) (hz : (n == 0) = false) : keptL (xs.take (j + 1)) = keptL (xs.take j) ++ [(s, n)] := by
  rw [take_of h]
  simp [keptL, hz]

theorem keptL_miss {xs : List (ByteArray × Int)} {j : Nat} {s : ByteArray} (h : xs[j]? = some (s, 0)) : keptL (xs.take (j + 1)) = keptL (xs.take j) := by
  rw [take_of h]
  simp [keptL]

theorem keptL_le (xs : List (ByteArray × Int)) (j : Nat) : (keptL (xs.take j)).length ≤ xs.length := by
  have h1 : (keptL (xs.take j)).length ≤ (xs.take j).length := List.length_filter_le _ _
  have h2 : (xs.take j).length ≤ xs.length := List.length_take_le' _ _
  omega

theorem Tryd.info32 : (Tryd.prog.info? 32).map (fun i => (i.zero, i.size, i.bytes)) = some (some (.agg #[.string ⟨#[]⟩, .int .i64 0]), 2, 24) := by kernel_rfl

def KeptRel (w : World) (xs : List (ByteArray × Int)) (k : Nat) (v i : Value) (wr : World) : Prop :=
  ∃ m, m + k = xs.length ∧ i = .int .i64 (m : Int) ∧ wr.ownsRow w.heap.size 32 2 v (keptL (xs.take m)).length (linkCells (keptL (xs.take m))) ∧ Below w.heap.size w wr

def KeptPost (w : World) (xs : List (ByteArray × Int)) (e : Ending) (w' : World) : Prop :=
  ∃ v, e = .returned v ∧ w'.ownsRow w.heap.size 32 2 v (keptL xs).length (linkCells (keptL xs)) ∧ Below w.heap.size w w'

set_option maxRecDepth 100000 in
theorem kept_any {w : World} {A : Option Addr} {c : Nat} {xs : List (ByteArray × Int)} (hx : Links w w.heap.size A xs) (hn : xs.length ≤ 50) :
    Calls Tryd.prog 8 #[.slice A xs.length c] w (KeptPost w xs) := by
  obtain ⟨i0, hi, hz0, hz1, hz2⟩ := info_parts Tryd.info32
  have HX := Lib.hid hx
  clear hx
  go_enter Tryd.func8, Tryd.ntmps8
  go_wp2_with fail
  go_loopg [3, 8] xs.length (fun k v i wr => KeptRel w xs k v i wr)
  case atStart => exact ⟨0, by simp, rfl, World.ownsRow_nil _ _ _ _, Below.refl _ _⟩
  case round =>
    obtain ⟨m, hmk, hi', hown, hb⟩ := hrel
    subst hi'
    cases gk with
    | zero =>
      have HO := Lib.hid hown
      have HM := Lib.hid hmk
      have hge : xs.length ≤ m := by omega
      clear hown hmk
      go_wp2_with fail
      go_ret
      have e := HO.out
      rw [List.take_of_length_le hge] at e
      exact ⟨_, rfl, e, hb⟩
    | succ j =>
      have hm : m < xs.length := by omega
      obtain ⟨⟨s, n⟩, hxj⟩ : ∃ x, xs[m]? = some x := ⟨_, List.getElem?_eq_getElem hm⟩
      obtain ⟨b, o, rfl, hlt, hcells⟩ := (HX.out.below hb) (by omega)
      obtain ⟨c1, c2⟩ := hcells m s n hxj
      have hsz := hb.size
      have hlt2 : b < wr.heap.size := by omega
      have hle := keptL_le xs m
      have HM := Lib.hid hmk
      have HXJ := Lib.hid hxj
      clear hcells hxj hmk
      cases hz : (n == 0)
      · have hz' : (n != 0) = true := by rw [bne, hz]; rfl
        go_wp2_with (first
          | (at_builtin; refine wpList_append_own _ rfl _ _ 22 rfl w.heap.size 32 i0 (.agg #[.string ⟨#[]⟩, .int .i64 0]) 2 24 Tryd.underlying22 hi hz0 hz1 hz2 rfl (by decide) _ _ _ rfl ((hown.alloc _).alloc _) ⟨wr.heap.size + 1, 0, none⟩ 1 1 [.string s, .int .i64 n] rfl rfl ?c1 ?c2 ?c3 ?c4 ?c5 ?_))
        case c1 =>
          intro j u hj
          match j, hj with
          | 0, hj => simp at hj; subst hj; simp [Addr.add]
          | 1, hj => simp at hj; subst hj; simp [Addr.add]
        case c2 =>
          intro u hu
          simp at hu
          rcases hu with rfl | rfl <;> rfl
        case c3 => unfold maxLen; omega
        case c4 => omega
        case c5 => simp; omega
        intro v' w1 hown' hgrow _
        have hb1 : Below w.heap.size w w1 := ((hb.alloc hsz _).alloc (by simp; omega) _).grown hgrow (by simp; omega) (fun k hk => (hown.lt k hk).1)
        have HO := Lib.hid hown'
        have HB := Lib.hid hb1
        clear hown' hgrow hown hb hb1 c1 c2
        go_wp2_with fail
        go_roundg j
        case measure => omega
        case rel =>
          refine ⟨m + 1, by have := HM.out; omega, by go_num, ?_, HB.out⟩
          rw [keptL_hit HXJ.out hz, linkCells_append, List.length_append]
          exact HO.out
      · have hn0 : n = 0 := by simpa using hz
        subst hn0
        clear hz
        have HO := Lib.hid hown
        clear hown
        go_wp2_with fail
        go_roundg j
        case measure => omega
        case rel =>
          refine ⟨m + 1, by have := HM.out; omega, by go_num, ?_, hb.alloc hsz _⟩
          rw [keptL_miss HXJ.out]
          exact HO.out.alloc _
end Go.Proofs.YtflmfppigpeiaaaDoor
