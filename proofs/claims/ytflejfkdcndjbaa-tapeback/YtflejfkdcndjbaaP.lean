/- What the rows' proofs share: a slice of bytes and a slice of operations that came in, opened. -/
import Derived.Test.YtflejfkdcndjbaaRows
import Derived.Test.YtflejfkdcndjbaaI
import Derived.ProofKit
import Derived.OpenShut
import Derived.ChangeOld
import Derived.Deep.SlicePairs
namespace Go.Proofs.Ytflejfkdcndjbaa
open Go.ChangeShapes Go.WideShapes Go.ChangeAt Go.RowKit

theorem Try.own : ownKnob Try.prog.godebug = none := by kernel_rfl
theorem Try.laidOut : laidOutB Try.prog = true := by kernel_rfl
theorem Try.cells5 : Try.prog.cellsOf 5 = 1 := by kernel_rfl
theorem Try.cells29 : Try.prog.cellsOf 29 = 4 := by kernel_rfl
theorem Try.cells9 : Try.prog.cellsOf 9 = 1 := by kernel_rfl
theorem Try.cells3 : Try.prog.cellsOf 3 = 1 := by kernel_rfl

/-- A slice of bytes that came in, opened: nil, or an address; its bytes in cells. -/
theorem open_bts {H : Type} {enc : TypeId × Value → H} {W : World} {base : Nat} {sp : Nat → Bool} {held : Bool} {v : Value} {d : DataW H} {p : List MemPlace}
    (h : DataW.Trod enc Try.prog W base sp held 25 v d p) (hv : ∃ a len cap, v = .slice a len cap) :
    ∃ (A : Option Addr) (n c : Nat), v = .slice A n c ∧ n ≤ c ∧ c ≤ maxLen ∧ (A = none → c = 0) ∧ ∃ l : List Nat, l.length = n ∧ Sml l ∧ Bts W W.heap.size A l := by
  obtain ⟨a, len, cap, rfl⟩ := hv
  obtain ⟨fuel, hf⟩ := h
  rcases open_ints Try.underlying25 Try.underlying5 Try.cells5 hf with ⟨hcs, _⟩ | ⟨x, l, c, zs, hcs, _, hl, hm, hz, _, hcell, hwz⟩
  · simp [Value.cells] at hcs
    obtain ⟨rfl, rfl, rfl⟩ := hcs
    exact ⟨none, 0, 0, rfl, by omega, by unfold maxLen; omega, fun _ => rfl, [], rfl, fun c hc => by simp at hc, fun h => by simp at h⟩
  · simp [Value.cells] at hcs
    obtain ⟨rfl, rfl, rfl⟩ := hcs
    have hwf : ∀ z ∈ zs, 0 ≤ z ∧ z < 256 := by
      intro z hzm
      have := hwz z hzm
      have e1 : IntKind.u8.min = 0 := by decide
      have e2 : IntKind.u8.max = 255 := by decide
      simp only [Lit.wf, e1, e2, Bool.and_eq_true, decide_eq_true_eq] at this
      omega
    have hzl : len ≤ zs.length := by rw [hz]; split <;> omega
    refine ⟨some x, len, cap, rfl, hl, hm, fun h => (by cases h), (zs.take len).map Int.toNat, ?_, ?_, ?_⟩
    · rw [List.length_map, List.length_take]
      omega
    · intro c hc
      simp only [List.mem_map] at hc
      obtain ⟨z, hzm, rfl⟩ := hc
      have := hwf z (List.mem_of_mem_take hzm)
      omega
    · intro hp
      rw [List.length_map, List.length_take] at hp
      obtain ⟨b, off, spot⟩ := x
      have hspot : spot = none := by simpa [Addr.add] using World.cell?_spot (hcell 0 (by omega))
      subst hspot
      have hlt := World.block_lt_of_cell? W _ (hcell 0 (by omega))
      refine ⟨b, off, rfl, by simpa [Addr.add] using hlt, fun k c hk => ?_⟩
      rw [List.getElem?_map] at hk
      have hkl : k < len := by
        rcases Nat.lt_or_ge k len with h | h
        · exact h
        · rw [List.getElem?_eq_none (by rw [List.length_take]; omega)] at hk
          cases hk
      have hz2 := hcell k (by omega)
      rw [add_plain] at hz2
      rw [hz2]
      rw [List.getElem?_take_of_lt hkl, List.getElem?_eq_getElem (by omega)] at hk
      simp only [Option.map_some, Option.some.injEq] at hk
      have := hwf zs[k] (List.getElem_mem (by omega))
      rw [List.getD_eq_getElem?_getD, List.getElem?_eq_getElem (by omega)]
      simp only [Option.getD_some, Option.some.injEq, Value.int.injEq, true_and]
      omega

/-- A slice of operations that came in, opened: nil, or an address; its fields in cells. -/
theorem open_ops {H : Type} {enc : TypeId × Value → H} {W : World} {base : Nat} {sp : Nat → Bool} {held : Bool} {v : Value} {d : DataW H} {p : List MemPlace}
    (h : DataW.Trod enc Try.prog W base sp held 22 v d p) (hv : ∃ a len cap, v = .slice a len cap) :
    ∃ (A : Option Addr) (n c : Nat), v = .slice A n c ∧ n ≤ maxLen ∧ ∃ l : List Opr, l.length = n ∧ Ops W W.heap.size A l ∧ ∀ q ∈ l, (Lit.int .i64 q.n).wf = true := by
  obtain ⟨a, len, cap, rfl⟩ := hv
  obtain ⟨fuel, hf⟩ := h
  rcases Go.Deep.open_slice Try.underlying22 hf with ⟨hcs, _⟩ | ⟨a', len', cap', m, n, D, Pl, hcs, hb, hl, hm, hmm, hx, hi⟩
  · simp [Value.cells] at hcs
    obtain ⟨rfl, rfl, rfl⟩ := hcs
    exact ⟨none, 0, 0, rfl, by unfold maxLen; omega, [], rfl, fun h => by simp at h, fun q hq => by simp at hq⟩
  · simp [Value.cells] at hcs
    obtain ⟨rfl, rfl, rfl⟩ := hcs
    have hlm : len ≤ m := by rw [hmm]; split <;> omega
    have each : ∀ i, i < len → ∃ y : Opr, W.cell? (a'.add (i * 4)) = some (.int .i64 y.kind) ∧ W.cell? (a'.add (i * 4 + 1)) = some (.int .i64 y.n) ∧ W.cell? (a'.add (i * 4 + 2)) = some (.int .i64 y.most) ∧ W.cell? (a'.add (i * 4 + 3)) = some (.string y.s) ∧ (Lit.int .i64 y.n).wf = true := by
      intro i hil
      obtain ⟨cs', h1, h2⟩ := hi i (by omega)
      rw [Try.cells29] at h1
      obtain ⟨_, hlen, hcell⟩ := World.cells?_some h1
      obtain ⟨xs, k, hk, hxy, _, hxl, hf⟩ := DataW.trod_struct Try.underlying29 h2
      match xs, hxl, cs', hlen with
      | [y0, y1, y2, y3], _, [v0, v1, v2, v3], _ =>
        have g0 := hf 0 _ rfl
        have g1 := hf 1 _ rfl
        have g2 := hf 2 _ rfl
        have g3 := hf 3 _ rfl
        simp [Try.cells3, Try.cells9] at g0 g1 g2 g3
        have e0 := hcell 0 (by omega)
        have e1 := hcell 1 (by omega)
        have e2 := hcell 2 (by omega)
        have e3 := hcell 3 (by omega)
        rw [Go.Deep.add_add] at e0 e1 e2 e3
        simp at e0 e1 e2 e3
        obtain ⟨z0, hz0, _⟩ := DataW.trod_int Try.underlying3 g0
        obtain ⟨z1, hz1, hz1d, hw1⟩ := DataW.trod_int Try.underlying3 g1
        obtain ⟨z2, hz2, _⟩ := DataW.trod_int Try.underlying3 g2
        obtain ⟨s, hs, _⟩ := DataW.trod_string Try.underlying9 g3
        simp at hz0 hz1 hz2 hs
        exact ⟨⟨z0, z1, z2, s⟩, by rw [e0, hz0], by rw [e1, hz1], by rw [e2, hz2], by rw [e3, hs], hw1⟩
    haveI : Inhabited Opr := ⟨⟨0, 0, 0, ⟨#[]⟩⟩⟩
    obtain ⟨f, hf'⟩ := Go.Deep.choose_lt each
    refine ⟨some a', len, cap, rfl, by omega, (List.range len).map f, by simp, fun hp => ?_, ?_⟩
    · simp at hp
      obtain ⟨b, off, spot⟩ := a'
      have hspot : spot = none := by simpa [Addr.add] using World.cell?_spot (hf' 0 hp).1
      subst hspot
      have hlt := World.block_lt_of_cell? W _ (hf' 0 hp).1
      refine ⟨b, off, rfl, by simpa [Addr.add] using hlt, fun k q hk => ?_⟩
      simp at hk
      obtain ⟨i, hi', hk⟩ := hk
      obtain ⟨hkl, rfl⟩ := List.getElem?_eq_some_iff.1 hi'
      simp at hkl hk
      obtain ⟨e0, e1, e2, e3, _⟩ := hf' k hkl
      rw [add_plain] at e0 e1 e2 e3
      rw [hk] at e0 e1 e2 e3
      exact ⟨e0, by rw [Nat.add_assoc]; exact e1, by rw [Nat.add_assoc]; exact e2, by rw [Nat.add_assoc]; exact e3⟩
    · intro q hq
      simp only [List.mem_map, List.mem_range] at hq
      obtain ⟨i, hil, rfl⟩ := hq
      exact (hf' i hil).2.2.2.2
end Go.Proofs.Ytflejfkdcndjbaa
