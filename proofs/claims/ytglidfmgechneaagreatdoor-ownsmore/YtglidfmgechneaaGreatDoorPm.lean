/- An array of two labels that came in, opened; what its texts weigh. -/
import Derived.Test.YtglidfmgechneaaGreatDoorP
namespace Go.Proofs.YtglidfmgechneaaGreatDoor
open Go.ChangeShapes Go.WideShapes Go.ChangeAt Go.RowKit

/- A slice of entries that came in, opened. -/
set_option maxRecDepth 100000 in
theorem open_ents0 {H : Type} {enc : TypeId × Value → H} {W : World} {base : Nat} {sp : Nat → Bool} {held : Bool} {fuel : Nat} {cs : List Value} {d : DataW H} {p : List MemPlace}
    (hf : DataW.trod enc Tryz.prog W base sp held fuel 43 cs = some (d, p)) :
    ∃ (A : Option Addr) (c : Nat) (l : List Ent), cs = [.slice A l.length c] ∧ (A = none → c = 0) ∧ l.length ≤ maxLen ∧ (∀ e ∈ l, e.1.length ≤ maxLen) ∧ Wide l ∧ Ents W W.heap.size A l ∧ (d = .nil ∧ l = [] ∨ ∃ sp', d = .slice (l.map entData) sp') := by
  rcases Go.Deep.open_slice Tryz.underlying43 hf with ⟨hcs, hx⟩ | ⟨a', len, cap, m, n, D, Pl, hcs, hb, hl, hm, hmm, hx, hi⟩
  · exact ⟨none, 0, [], hcs, fun _ => rfl, by simp, by simp, by simp [Wide], Ents.nil _ _ _, .inl ⟨(Prod.mk.inj hx).1, rfl⟩⟩
  · have hlm : len ≤ m := by rw [hmm]; split <;> omega
    have each : ∀ i, i < len → ∃ y : Ent, W.cell? (a'.add (i * 2)) = some (.string (str y.1)) ∧ W.cell? (a'.add (i * 2 + 1)) = some (.int .i64 y.2) ∧ y.1.length ≤ maxLen ∧ (Lit.int .i64 y.2).wf = true ∧ D i = entData y := by
      intro i hil
      obtain ⟨cs', h1, h2⟩ := hi i (by omega)
      rw [Tryz.cells52] at h1
      obtain ⟨_, hlen, hcell⟩ := World.cells?_some h1
      obtain ⟨xs, k, hk, hxy, _, hxl, hf⟩ := DataW.trod_struct Tryz.underlying52 h2
      match xs, hxl, cs', hlen with
      | [y0, y1], _, [v0, v1], _ =>
        have g0 := hf 0 _ rfl
        have g1 := hf 1 _ rfl
        simp [Tryz.cells3, Tryz.cells9] at g0 g1
        have e0 := hcell 0 (by omega)
        have e1 := hcell 1 (by omega)
        rw [Go.Deep.add_add] at e0 e1
        simp at e0 e1
        obtain ⟨s, hs, hsd, hsz⟩ := DataW.trod_string Tryz.underlying9 g0
        obtain ⟨z1, hz1, hz1d, hw1⟩ := DataW.trod_int Tryz.underlying3 g1
        simp at hs hz1
        refine ⟨(s.data.toList, z1), by rw [e0, hs, ← str_of], by rw [e1, hz1], by rw [Array.length_toList]; exact hsz, hw1, ?_⟩
        have := (Prod.mk.inj hxy).1
        rw [this]
        simp [entData, hsd, hz1d]
    haveI : Inhabited Ent := ⟨([], 0)⟩
    obtain ⟨f, hf'⟩ := Go.Deep.choose_lt each
    refine ⟨some a', cap, (List.range len).map f, by rw [hcs]; simp, fun h => (by cases h), by simp; omega, ?_, ?_, fun hp => ?_, .inr ⟨(List.range (m - len)).map fun j => D (len + j), (Prod.mk.inj hx).1.trans ?_⟩⟩
    · intro q hq
      simp only [List.mem_map, List.mem_range] at hq
      obtain ⟨i, hil, rfl⟩ := hq
      exact (hf' i hil).2.2.1
    · intro q hq
      simp only [List.mem_map, List.mem_range] at hq
      obtain ⟨i, hil, rfl⟩ := hq
      exact bounds_i64 (hf' i hil).2.2.2.1
    · simp at hp
      obtain ⟨b, off, spot⟩ := a'
      have hspot : spot = none := by simpa [Addr.add] using World.cell?_spot (hf' 0 hp).1
      subst hspot
      have hlt := World.block_lt_of_cell? W _ (hf' 0 hp).1
      refine ⟨b, off, rfl, by simpa [Addr.add] using hlt, fun k s n hk => ?_⟩
      simp at hk
      obtain ⟨i, hi', hk⟩ := hk
      obtain ⟨hkl, rfl⟩ := List.getElem?_eq_some_iff.1 hi'
      simp at hkl hk
      obtain ⟨e0, e1, _⟩ := hf' k hkl
      rw [add_plain] at e0 e1
      rw [hk] at e0 e1
      exact ⟨e0, by rw [Nat.add_assoc]; exact e1⟩
    · congr 1
      rw [List.map_map]
      refine List.map_congr_left fun i hi' => ?_
      exact (hf' i (List.mem_range.1 hi')).2.2.2.2


theorem Tryz.cells43 : Tryz.prog.cellsOf 43 = 1 := by kernel_rfl
theorem Tryz.cells45 : Tryz.prog.cellsOf 45 = 2 := by kernel_rfl

/-- What an opened slice of entries is, as data. -/
def IsEnts {H : Type} (d : DataW H) (l : List Ent) : Prop := d = .nil ∧ l = [] ∨ ∃ sp', d = .slice (l.map entData) sp'

set_option maxRecDepth 100000 in
/-- An array of two labels that came in, opened. -/
theorem open_two {H : Type} {enc : TypeId × Value → H} {W : World} {base b0 : Nat} {sp : Nat → Bool} {held : Bool} {v : Value} {d : DataW H} {p : List MemPlace}
    (h : DataW.Trod enc Tryz.prog W base sp held 45 v d p) (hv : Value.okWide Tryz.prog W .any b0 45 v) :
    ∃ (A B : Option Addr) (c c' : Nat) (a b : List Ent) (da db : DataW H), v = .agg #[.slice A a.length c, .slice B b.length c'] ∧ d = .agg [da, db] ∧ IsEnts da a ∧ IsEnts db b ∧ (A = none → c = 0) ∧ (B = none → c' = 0) ∧ a.length ≤ maxLen ∧ b.length ≤ maxLen ∧ Ents W W.heap.size A a ∧ Ents W W.heap.size B b := by
  simp only [Value.okWide, Tryz.underlying45] at hv
  obtain ⟨cs, rfl, hsz, _⟩ := hv
  rw [Tryz.cells45] at hsz
  obtain ⟨c0, c1, rfl⟩ : ∃ c0 c1, cs = #[c0, c1] := by
    obtain ⟨l⟩ := cs
    match l, hsz with
    | [c0, c1], _ => exact ⟨c0, c1, rfl⟩
  obtain ⟨fuel, hf⟩ := h
  obtain ⟨xs, m, _, hx, _, hl, hel⟩ := DataW.trod_array Tryz.underlying45 hf
  obtain ⟨y0, y1, rfl⟩ : ∃ y0 y1, xs = [y0, y1] := by
    match xs, hl with
    | [y0, y1], _ => exact ⟨y0, y1, rfl⟩
  have h0 := hel 0 (by omega)
  have h1 := hel 1 (by omega)
  rw [Tryz.cells43] at h0 h1
  simp [Value.cells] at h0 h1
  obtain ⟨A, c, a, ea, n0, m0, _, _, k0, i0⟩ := open_ents0 (d := y0.1) (p := y0.2) h0
  obtain ⟨B, c', b, eb, n1, m1, _, _, k1, i1⟩ := open_ents0 (d := y1.1) (p := y1.2) h1
  injection ea with ea
  injection eb with eb
  refine ⟨A, B, c, c', a, b, y0.1, y1.1, by rw [ea, eb], ?_, i0, i1, n0, n1, m0, m1, k0, k1⟩
  rw [(Prod.mk.inj hx).1]
  rfl

theorem weights_all_mem {H : Type} {P : Program} {e : TypeId} {d : DataW H} {n : Nat} : ∀ {l : List (DataW H)}, d ∈ l → n ∈ DataW.weights P e d → n ∈ DataW.weightsAll P e l
  | x :: r, h, hn => by
    simp only [DataW.weightsAll, List.mem_append]
    rcases List.mem_cons.1 h with rfl | h
    · exact .inl hn
    · exact .inr (weights_all_mem h hn)

/-- Each text of a label weighs at most what the whole does. -/
theorem ents_weight {H : Type} {d : DataW H} {l : List Ent} (hd : IsEnts d l) {B : Nat} (hb : ∀ n ∈ DataW.weights Tryz.prog 43 d, n ≤ B) : ∀ e ∈ l, e.1.length ≤ B := fun e he => by
  rcases hd with ⟨_, rfl⟩ | ⟨sp', rfl⟩
  · cases he
  · refine hb _ ?_
    simp only [DataW.weights, Tryz.underlying43, List.mem_cons, List.mem_append]
    refine .inr (.inl (weights_all_mem (d := entData e) (List.mem_map_of_mem he) ?_))
    simp [entData, DataW.weights, Tryz.underlying52, DataW.weightsEach]
end Go.Proofs.YtglidfmgechneaaGreatDoor
