/- What the rows' proofs share: a slice of bytes and a slice of slices of bytes that came in, opened. -/
import Derived.Test.YtgjccgdnhccndaaRows
import Derived.Test.YtgjccgdnhccndaaG
import Derived.ProofKit
import Derived.OpenShut
import Derived.ChangeOld
import Derived.Deep.Slices
namespace Go.Proofs.Ytgjccgdnhccndaa
open Go.ChangeShapes Go.WideShapes Go.ChangeAt Go.RowKit

theorem Try.own : ownKnob Try.prog.godebug = none := by kernel_rfl
theorem Try.laidOut : laidOutB Try.prog = true := by kernel_rfl
theorem Try.cells5 : Try.prog.cellsOf 5 = 1 := by kernel_rfl

/-- A slice of bytes that came in, opened: nil, or an address; its bytes in cells. -/
theorem open_bts {H : Type} {enc : TypeId × Value → H} {W : World} {base : Nat} {sp : Nat → Bool} {held : Bool} {v : Value} {d : DataW H} {p : List MemPlace}
    (h : DataW.Trod enc Try.prog W base sp held 24 v d p) (hv : ∃ a len cap, v = .slice a len cap) :
    ∃ (A : Option Addr) (n c : Nat), v = .slice A n c ∧ n ≤ c ∧ c ≤ maxLen ∧ (A = none → c = 0) ∧ ∃ l : List Nat, l.length = n ∧ Sml l ∧ Bts W W.heap.size A l := by
  obtain ⟨a, len, cap, rfl⟩ := hv
  obtain ⟨fuel, hf⟩ := h
  rcases open_ints Try.underlying24 Try.underlying5 Try.cells5 hf with ⟨hcs, _⟩ | ⟨x, l, c, zs, hcs, _, hl, hm, hz, _, hcell, hwz⟩
  · simp [Value.cells] at hcs
    obtain ⟨rfl, rfl, rfl⟩ := hcs
    exact ⟨none, 0, 0, rfl, by omega, by unfold maxLen; omega, fun _ => rfl, [], rfl, fun c hc => by simp at hc, fun h => by simp at h⟩
  · simp [Value.cells] at hcs
    obtain ⟨rfl, rfl, rfl⟩ := hcs
    have hwf : ∀ z ∈ zs, 0 ≤ z ∧ z < 256 := by
      intro z hzm
      have := hwz z hzm
      have e1 : IntKind.u8.min = 0 := by decide
      have e2 : IntKind.u8.max = 255 := by decide
      simp only [Lit.wf, e1, e2, Bool.and_eq_true, decide_eq_true_eq] at this
      omega
    have hzl : len ≤ zs.length := by rw [hz]; split <;> omega
    refine ⟨some x, len, cap, rfl, hl, hm, fun h => (by cases h), (zs.take len).map Int.toNat, ?_, ?_, ?_⟩
    · rw [List.length_map, List.length_take]
      omega
    · intro c hc
      simp only [List.mem_map] at hc
      obtain ⟨z, hzm, rfl⟩ := hc
      have := hwf z (List.mem_of_mem_take hzm)
      omega
    · intro hp
      rw [List.length_map, List.length_take] at hp
      obtain ⟨b, off, spot⟩ := x
      have hspot : spot = none := by simpa [Addr.add] using World.cell?_spot (hcell 0 (by omega))
      subst hspot
      have hlt := World.block_lt_of_cell? W _ (hcell 0 (by omega))
      refine ⟨b, off, rfl, by simpa [Addr.add] using hlt, fun k c hk => ?_⟩
      rw [List.getElem?_map] at hk
      have hkl : k < len := by
        rcases Nat.lt_or_ge k len with h | h
        · exact h
        · rw [List.getElem?_eq_none (by rw [List.length_take]; omega)] at hk
          cases hk
      have hz2 := hcell k (by omega)
      rw [add_plain] at hz2
      rw [hz2]
      rw [List.getElem?_take_of_lt hkl, List.getElem?_eq_getElem (by omega)] at hk
      simp only [Option.map_some, Option.some.injEq] at hk
      have := hwf zs[k] (List.getElem_mem (by omega))
      rw [List.getD_eq_getElem?_getD, List.getElem?_eq_getElem (by omega)]
      simp only [Option.getD_some, Option.some.injEq, Value.int.injEq, true_and]
      omega

theorem Try.cells24 : Try.prog.cellsOf 24 = 1 := by kernel_rfl

/-- One cell that reads as a slice of bytes. -/
theorem open_bts1 {H : Type} {enc : TypeId × Value → H} {W : World} {base n : Nat} {sp : Nat → Bool} {held : Bool} {v : Value} {x : DataW H × List MemPlace}
    (h : DataW.trod enc Try.prog W base sp held n 24 [v] = some x) :
    ∃ (A : Option Addr) (n c : Nat), v = .slice A n c ∧ n ≤ c ∧ c ≤ maxLen ∧ (A = none → c = 0) ∧ ∃ l : List Nat, l.length = n ∧ Sml l ∧ Bts W W.heap.size A l := by
  have hv : ∃ a len cap, v = .slice a len cap := by
    rcases open_ints Try.underlying24 Try.underlying5 Try.cells5 h with ⟨hcs, _⟩ | ⟨a, l, c, _, hcs, _⟩
    · exact ⟨_, _, _, by simpa using hcs⟩
    · exact ⟨_, _, _, by simpa using hcs⟩
  have hv' := hv
  obtain ⟨a, len, cap, rfl⟩ := hv
  exact open_bts (d := x.1) (p := x.2) ⟨n, by simpa [Value.cells] using h⟩ hv'

/-- A slice of slices of bytes that came in, opened. -/
theorem open_parts {H : Type} {enc : TypeId × Value → H} {W : World} {base : Nat} {sp : Nat → Bool} {held : Bool} {v : Value} {d : DataW H} {p : List MemPlace}
    (h : DataW.Trod enc Try.prog W base sp held 22 v d p) (hv : ∃ a len cap, v = .slice a len cap) :
    ∃ (A : Option Addr) (n c : Nat), v = .slice A n c ∧ n ≤ c ∧ c ≤ maxLen ∧ ∃ ps : List (List Nat), ps.length = n ∧ (∀ l ∈ ps, Sml l) ∧ Parts W W.heap.size A ps := by
  obtain ⟨a, len, cap, rfl⟩ := hv
  obtain ⟨fuel, hf⟩ := h
  rcases Go.Deep.open_slice1 Try.underlying22 Try.cells24 hf with ⟨hcs, _⟩ | ⟨a', len', cap', m, n, V, D, Pl, hcs, _, hl, hm, hmm, _, hi⟩
  · simp [Value.cells] at hcs
    obtain ⟨rfl, rfl, rfl⟩ := hcs
    exact ⟨none, 0, 0, rfl, by omega, by unfold maxLen; omega, [], rfl, fun l hl => by simp at hl, fun h => by simp at h⟩
  · simp [Value.cells] at hcs
    obtain ⟨rfl, rfl, rfl⟩ := hcs
    have hlm : len ≤ m := by rw [hmm]; split <;> omega
    have each : ∀ i, i < len → ∃ y : List Nat, Sml y ∧ ∃ A1 c1, W.cell? (a'.add i) = some (.slice A1 y.length c1) ∧ Bts W W.heap.size A1 y ∧ (A1 = Option.none → c1 = 0) ∧ y.length ≤ maxLen := by
      intro i hil
      obtain ⟨c0, t0⟩ := hi i (by omega)
      obtain ⟨A1, n1, c1, hv1, hn1, hc1, hA1, l, rfl, hs, hb⟩ := open_bts1 t0
      exact ⟨l, hs, A1, c1, by rw [c0, hv1], hb, hA1, by omega⟩
    obtain ⟨f, hf'⟩ := Go.Deep.choose_lt each
    refine ⟨some a', len, cap, rfl, hl, hm, (List.range len).map f, by simp, ?_, fun hp => ?_⟩
    · intro l hl'
      simp only [List.mem_map, List.mem_range] at hl'
      obtain ⟨i, hil, rfl⟩ := hl'
      exact (hf' i hil).1
    · simp at hp
      obtain ⟨b, off, spot⟩ := a'
      have hspot : spot = Option.none := by
        obtain ⟨_, _, _, h0, _⟩ := hf' 0 hp
        simpa [Addr.add] using World.cell?_spot h0
      subst hspot
      have hlt : b < W.heap.size := by
        obtain ⟨_, _, _, h0, _⟩ := hf' 0 hp
        simpa [Addr.add] using World.block_lt_of_cell? W _ h0
      refine ⟨b, off, rfl, hlt, fun k l hk => ?_⟩
      simp at hk
      obtain ⟨i, hi', hk⟩ := hk
      obtain ⟨hkl, rfl⟩ := List.getElem?_eq_some_iff.1 hi'
      simp at hkl hk
      obtain ⟨_, A1, c1, h0, h1⟩ := hf' k hkl
      rw [add_plain, hk] at h0
      rw [hk] at h1
      exact ⟨A1, c1, h0, h1⟩
end Go.Proofs.Ytgjccgdnhccndaa
