/- What the rows' proofs share: the table's cells off what the row lists; a slice of bytes that came in, opened. -/
import Derived.Test.YthkmgfompoebdaaDoorRows
import Derived.Test.YthkmgfompoebdaaDoorB
import Derived.ProofKit
import Derived.OpenShut
import Derived.LaidMore
import Derived.Lay
import Derived.MakeChecks
import Derived.ChangeOld
namespace Go.Proofs.YthkmgfompoebdaaDoor
open Go.ChangeShapes Go.WideShapes Go.ChangeAt Go.RowKit

theorem Tryd.own : ownKnob Tryd.prog.godebug = none := by kernel_rfl
theorem Tryd.laidOut : laidOutB Tryd.prog = true := by kernel_rfl
theorem Tryd.cells5 : Tryd.prog.cellsOf 5 = 1 := by kernel_rfl

def laidList : List (String × DataW Unit) := [("regency/crc.steps", Rows.laid_regency_crc_steps)]

theorem steps_data : (Rows.laid_regency_crc_steps : DataW Unit) = .agg (tab.map fun n : Nat => .lit (.int .u32 (n : Int))) := by kernel_rfl

theorem tab_of_laid {W : World} (h : laidMetH Tryd.prog laidList W) : TabIn W := by
  rw [MakeChecks.laidMetH_plain _ _ _ (by kernel_rfl)] at h
  obtain ⟨ps, ⟨g, t, cs, fuel, p, q, hg, ht, hv, hd, _, _⟩, _, _⟩ := h
  obtain rfl := Option.some.inj ((show Tryd.prog.globalNamed "regency/crc.steps" = some 0 by kernel_rfl).symm.trans hg)
  obtain rfl := Option.some.inj ((show (Tryd.prog.globals[0]?).map (·.type) = some 43 by kernel_rfl).symm.trans ht)
  obtain ⟨xs, m, _, ex, _, hl, hel⟩ := DataW.trod_array Tryd.underlying43 hd
  have c24 : Tryd.prog.cellsOf 24 = 1 := by kernel_rfl
  have hlen : tab.length = 16 := rfl
  have cell : ∀ r, r < 16 → W.cell? ⟨0, r, none⟩ = some (.int .u32 (tabAt r : Int)) := by
    intro r hr
    have hE := hel r hr
    rw [c24, Nat.mul_one, List.getElem?_eq_getElem (by omega)] at hE
    obtain ⟨z, e1, e2, _⟩ := DataW.trod_int Tryd.underlying24 hE
    have e3 : (xs.map (·.1)) = tab.map fun n : Nat => .lit (.int .u32 (n : Int)) := by
      have := (Prod.mk.inj ex).1
      rw [steps_data] at this
      exact (DataW.agg.inj this).symm
    have e4 : (xs.map (·.1))[r]? = (tab.map fun n : Nat => (DataW.lit (.int .u32 (n : Int)) : DataW Unit))[r]? := by rw [e3]
    rw [List.getElem?_map, List.getElem?_map, List.getElem?_eq_getElem (by omega : r < xs.length), List.getElem?_eq_getElem (by omega : r < tab.length), e2] at e4
    have hz : z = (tabAt r : Int) := by
      simp only [Option.map_some, Option.some.injEq, DataW.lit.injEq, Lit.int.injEq, true_and] at e4
      rw [e4, tabAt, List.getD_eq_getElem?_getD, List.getElem?_eq_getElem (by omega : r < tab.length)]; rfl
    rw [World.var?_cell hg hv r, ← hz]
    have : cs.toList[r]? = some (.int .u32 z) := by
      have h0 : ((cs.toList.drop r).take 1)[0]? = some (.int .u32 z) := by rw [e1]; rfl
      simpa using h0
    simpa using this
  exact ⟨by simpa using World.block_lt_of_cell? W _ (cell 0 (by omega)), cell⟩

/-- A slice of bytes that came in, opened: nil, or an address; its bytes in cells. -/
theorem open_bts {H : Type} {enc : TypeId × Value → H} {W : World} {base : Nat} {sp : Nat → Bool} {held : Bool} {v : Value} {d : DataW H} {p : List MemPlace}
    (h : DataW.Trod enc Tryd.prog W base sp held 28 v d p) (hv : ∃ a len cap, v = .slice a len cap) :
    ∃ (A : Option Addr) (n c : Nat), v = .slice A n c ∧ n ≤ c ∧ c ≤ maxLen ∧ (A = none → c = 0) ∧ ∃ l : List Nat, l.length = n ∧ Sml l ∧ Bts W W.heap.size A l := by
  obtain ⟨a, len, cap, rfl⟩ := hv
  obtain ⟨fuel, hf⟩ := h
  rcases open_ints Tryd.underlying28 Tryd.underlying5 Tryd.cells5 hf with ⟨hcs, _⟩ | ⟨x, l, c, zs, hcs, _, hl, hm, hz, _, hcell, hwz⟩
  · simp [Value.cells] at hcs
    obtain ⟨rfl, rfl, rfl⟩ := hcs
    exact ⟨none, 0, 0, rfl, by omega, by unfold maxLen; omega, fun _ => rfl, [], rfl, fun c hc => by simp at hc, fun h => by simp at h⟩
  · simp [Value.cells] at hcs
    obtain ⟨rfl, rfl, rfl⟩ := hcs
    have hwf : ∀ z ∈ zs, 0 ≤ z ∧ z < 256 := by
      intro z hzm
      have := hwz z hzm
      have e1 : IntKind.u8.min = 0 := by decide
      have e2 : IntKind.u8.max = 255 := by decide
      simp only [Lit.wf, e1, e2, Bool.and_eq_true, decide_eq_true_eq] at this
      omega
    have hzl : len ≤ zs.length := by rw [hz]; split <;> omega
    refine ⟨some x, len, cap, rfl, hl, hm, fun h => (by cases h), (zs.take len).map Int.toNat, ?_, ?_, ?_⟩
    · rw [List.length_map, List.length_take]
      omega
    · intro c hc
      simp only [List.mem_map] at hc
      obtain ⟨z, hzm, rfl⟩ := hc
      have := hwf z (List.mem_of_mem_take hzm)
      omega
    · intro hp
      rw [List.length_map, List.length_take] at hp
      obtain ⟨b, off, spot⟩ := x
      have hspot : spot = none := by simpa [Addr.add] using World.cell?_spot (hcell 0 (by omega))
      subst hspot
      have hlt := World.block_lt_of_cell? W _ (hcell 0 (by omega))
      refine ⟨b, off, rfl, by simpa [Addr.add] using hlt, fun k c hk => ?_⟩
      rw [List.getElem?_map] at hk
      have hkl : k < len := by
        rcases Nat.lt_or_ge k len with h | h
        · exact h
        · rw [List.getElem?_eq_none (by rw [List.length_take]; omega)] at hk
          cases hk
      have hz2 := hcell k (by omega)
      rw [add_plain] at hz2
      rw [hz2]
      rw [List.getElem?_take_of_lt hkl, List.getElem?_eq_getElem (by omega)] at hk
      simp only [Option.map_some, Option.some.injEq] at hk
      have := hwf zs[k] (List.getElem_mem (by omega))
      rw [List.getD_eq_getElem?_getD, List.getElem?_eq_getElem (by omega)]
      simp only [Option.getD_some, Option.some.injEq, Value.int.injEq, true_and]
      omega
end Go.Proofs.YthkmgfompoebdaaDoor
