/- Lemmas for the law: Pq, Pv, Pw. -/
import Derived.Test.YtgcbfggoddkhnaaGreatDoorM06
import Derived.Test.YtgcbfggoddkhnaaGreatDoorM26
namespace Go.Proofs.YtgcbfggoddkhnaaGreatDoor
open Go.ChangeShapes Go.WideShapes Go.ChangeAt Go.RowKit
theorem bulk_pos {H : Type} (d : DataW H) : 1 ≤ Rows.uptoBulk d := by
 cases d with
 | lit l => cases l <;> simp [Rows.uptoBulk]
 | _ => simp [Rows.uptoBulk]
theorem bulk_len {H : Type} (l : List (DataW H)) : l.length ≤ Rows.uptoBulkAll l := by
 induction l with
 | nil => simp
 | cons x r ih =>
  have := bulk_pos x
  simp only [Rows.uptoBulkAll, List.length_cons]
  omega
theorem flat_at {α : Type} {f : α → List Value} {s : Nat} (hs : ∀ x, (f x).length = s) : ∀ (l : List α) (k : Nat) (u : Value), (l.flatMap f)[k]? = some u → ∃ i y r, l[i]? = some y ∧ k = i * s + r ∧ (f y)[r]? = some u
 | [], k, u, h => by simp at h
 | x :: r, k, u, h => by
  rw [List.flatMap_cons] at h
  by_cases hk : k < s
  · rw [List.getElem?_append_left (by rw [hs]; exact hk)] at h
    exact ⟨0, x, k, rfl, by omega, h⟩
  · rw [List.getElem?_append_right (by rw [hs]; omega), hs] at h
    obtain ⟨i, y, q, h1, h2, h3⟩ := flat_at hs r (k - s) u h
    exact ⟨i + 1, y, q, h1, by rw [Nat.succ_mul]; omega, h3⟩
theorem row_slv {W : World} {A : Option Addr} {c s : Nat} {α : Type} {l : List α} {f : α → List Value} (hs : ∀ x, (f x).length = s) (hc : A = none → c = 0) (hl : l.length ≤ c)
  (h : 0 < l.length → ∃ b o, A = some ⟨b, o, none⟩ ∧ b < W.heap.size ∧ ∀ i y, l[i]? = some y → ∀ (r : Nat) (u : Value), (f y)[r]? = some u → W.cell? ⟨b, o + i * s + r, none⟩ = some u) :
  SlV W No (.slice A l.length c) l.length (l.flatMap f) := by
 refine ⟨A, c, rfl, hc, hl, fun hp => ?_⟩
 have hl0 : 0 < l.length := by
  cases l with
  | nil => simp at hp
  | cons x r => simp
 obtain ⟨b, o, h1, h2, h3⟩ := h hl0
 refine ⟨b, o, h1, fun h => h, h2, fun k u hu => ?_⟩
 obtain ⟨i, y, r, g1, g2, g3⟩ := flat_at hs l k u hu
 rw [g2, ← Nat.add_assoc]
 exact h3 i y g1 r u g3
theorem entCells_flat (l : List Ent) : entCells l = l.flatMap fun e => [.string (str e.1), .int .i64 e.2] := by
 induction l with
 | nil => rfl
 | cons x r ih => obtain ⟨a, b⟩ := x; rw [List.flatMap_cons, ← ih]; rfl
theorem kidCells_flat (l : List Kd) : kidCells l = l.flatMap fun k => [.int .i64 k.1, .int .i64 k.2.1, .int .i64 k.2.2] := by
 induction l with
 | nil => rfl
 | cons x r ih => rw [List.flatMap_cons, ← ih]; rfl
theorem map_flat {α β : Type} (f : α → β) (l : List α) : l.map f = l.flatMap fun x => [f x] := by
 induction l with
 | nil => rfl
 | cons x r ih => rw [List.flatMap_cons, ← ih]; rfl
theorem Tryz.cells42 : Tryz.prog.cellsOf 42 = 2 := by kernel_rfl
theorem Tryz.cells85 : Tryz.prog.cellsOf 85 = 3 := by kernel_rfl
theorem Tryz.cells45 : Tryz.prog.cellsOf 45 = 3 := by kernel_rfl
theorem Tryz.cells29 : Tryz.prog.cellsOf 29 = 10 := by kernel_rfl
theorem Tryz.cells4 : Tryz.prog.cellsOf 4 = 1 := by kernel_rfl
theorem Tryz.cells23 : Tryz.prog.cellsOf 23 = 1 := by kernel_rfl
theorem Tryz.cells24 : Tryz.prog.cellsOf 24 = 1 := by kernel_rfl
theorem Tryz.cells25 : Tryz.prog.cellsOf 25 = 1 := by kernel_rfl
theorem Tryz.cells26 : Tryz.prog.cellsOf 26 = 1 := by kernel_rfl
theorem Tryz.cells27 : Tryz.prog.cellsOf 27 = 1 := by kernel_rfl
theorem Tryz.cells43 : Tryz.prog.cellsOf 43 = 1 := by kernel_rfl
section
variable {H : Type} {enc : TypeId × Value → H} {W : World} {base fuel : Nat} {sp : Nat → Bool} {held : Bool} {v : Value} {d : DataW H} {p : List MemPlace}
theorem open_int1 {v : Value} (h : DataW.trod enc Tryz.prog W base sp held fuel 3 [v] = some (d, p)) : ∃ z, v = .int .i64 z ∧ W64 z := by
 obtain ⟨z, h1, _, h2⟩ := DataW.trod_int Tryz.underlying3 h
 injection h1 with h1
 have := bounds_i64 h2
 exact ⟨z, h1, by unfold W64; omega⟩
theorem pl_slv {A : Option Addr} {c : Nat} {l : List Int} (h : Pa.PL W A c l) : SlV W No (.slice A l.length c) l.length (Pa.zCellsOf l) := ⟨A, c, rfl, h.nil, h.cap, pl_sl h (Below.refl _ _) fun _ h => h.elim⟩
end
end Go.Proofs.YtgcbfggoddkhnaaGreatDoor
namespace Go.Proofs.YtgcbfggoddkhnaaGreatDoor
open Go.ChangeShapes Go.WideShapes Go.ChangeAt Go.RowKit
theorem sum_bulk {H : Type} (D : Nat → DataW H) (g : Nat → Nat) : ∀ l : List Nat, (∀ i ∈ l, g i ≤ 9 * Rows.uptoBulk (D i)) → (l.map g).sum ≤ 9 * Rows.uptoBulkAll (l.map D)
 | [], _ => by simp
 | x :: r, h => by
  have h1 := h x (by simp)
  have h2 := sum_bulk D g r fun i hi => h i (by simp [hi])
  simp only [List.map_cons, List.sum_cons, Rows.uptoBulkAll]
  omega
theorem flat_len {α β : Type} (f : α → List β) (l : List α) : (l.flatMap f).length = (l.map fun x => (f x).length).sum := by
 induction l with
 | nil => rfl
 | cons x r ih => rw [List.flatMap_cons, List.length_append, ih]; rfl
theorem txt_le9 {x : List UInt8} (h : x.length ≤ 1048576) : (Tp.txt (str x)).length ≤ 9 + x.length := by
 rw [txt_eq, List.length_append, bys_len]
 have := Tp.enc_nine (n := x.length) (by omega)
 omega
theorem sum_nine {α : Type} (l : List α) : (l.map fun _ => 9).sum = 9 * l.length := by
 induction l with
 | nil => rfl
 | cons x r ih => simp only [List.map_cons, List.sum_cons, List.length_cons, ih]; omega
theorem sum_one {α : Type} (l : List α) : (l.map fun _ => 1).sum = l.length := by
 induction l with
 | nil => rfl
 | cons x r ih => simp only [List.map_cons, List.sum_cons, List.length_cons, ih]; omega
theorem open_rowS {H : Type} {enc : TypeId × Value → H} {W : World} {base fuel : Nat} {sp : Nat → Bool} {held : Bool} {t e : TypeId} {s : Nat} {v : Value} {d : DataW H} {p : List MemPlace} {α : Type} {Q : α → List Value → DataW H → Prop}
   (ht : Tryz.prog.underlying t = some (.slice e)) (hc : Tryz.prog.cellsOf e = s) (hs : 0 < s) (h : DataW.trod enc Tryz.prog W base sp held fuel t [v] = some (d, p))
   (each : ∀ n cs dd pp, cs.length = s → DataW.trod enc Tryz.prog W base sp held n e cs = some (dd, pp) → ∃ y : α, Q y cs dd) :
   ∃ (A : Option Addr) (c : Nat) (l : List α), v = .slice A l.length c ∧ (A = none → c = 0) ∧ l.length ≤ c ∧ l.length ≤ Rows.uptoBulk d ∧ (∀ y ∈ l, ∃ cs dd, Q y cs dd ∧ Rows.uptoBulk dd ≤ Rows.uptoBulk d) ∧ (∀ μ : α → Nat, (∀ y cs dd, Q y cs dd → Rows.uptoBulk dd ≤ Rows.uptoBulk d → μ y ≤ 9 * Rows.uptoBulk dd) → (l.map μ).sum + 9 ≤ 9 * Rows.uptoBulk d) ∧
     (0 < l.length → ∃ b o, A = some ⟨b, o, none⟩ ∧ b < W.heap.size ∧ ∀ i y, l[i]? = some y → ∃ cs dd, Q y cs dd ∧ cs.length = s ∧ ∀ (r : Nat) (u : Value), cs[r]? = some u → W.cell? ⟨b, o + i * s + r, none⟩ = some u) := by
 rcases Go.Deep.open_slice ht h with ⟨hcs, hx⟩ | ⟨a', len', cap', m, n, D, Pl, hcs, hb, hl, hm, hmm, hx, hi⟩
 · injection hcs with hcs
   subst hcs
   exact ⟨none, 0, [], rfl, fun _ => rfl, Nat.le_refl _, Nat.zero_le _, (fun y hy => by cases hy), (fun μ _ => by have := bulk_pos d; simp only [List.map_nil, List.sum_nil]; omega), fun hp => absurd hp (by simp)⟩
 · injection hcs with hcs
   subst hcs
   have hlm : len' ≤ m := by rw [hmm]; split <;> omega
   have hd := (Prod.mk.inj hx).1
   have hbk : Rows.uptoBulk d = Rows.uptoBulkAll ((List.range len').map D) + Rows.uptoBulkAll ((List.range (m - len')).map fun j => D (len' + j)) + 1 := by rw [hd]; simp only [Rows.uptoBulk]
   have all : ∀ i, i < len' → ∃ y : α, ∃ cs, Q y cs (D i) ∧ cs.length = s ∧ ∀ (r : Nat) (u : Value), cs[r]? = some u → W.cell? (a'.add (i * s + r)) = some u := by
     intro i hil
     obtain ⟨cs', h1, h2⟩ := hi i (by omega)
     rw [hc] at h1
     obtain ⟨_, hlen, hcell⟩ := World.cells?_some h1
     obtain ⟨y, hy⟩ := each n cs' (D i) (Pl i) hlen h2
     refine ⟨y, cs', hy, hlen, fun r u hu => ?_⟩
     have hr : r < s := by have := (List.getElem?_eq_some_iff.1 hu).1; omega
     have := hcell r hr
     rw [Go.Deep.add_add] at this
     rw [this]
     first | exact hu | (rw [← hu])
   by_cases h0 : len' = 0
   · subst h0
     exact ⟨some a', cap', [], rfl, fun h => (by cases h), Nat.zero_le _, Nat.zero_le _, (fun y hy => by cases hy), (fun μ _ => by have := bulk_pos d; simp only [List.map_nil, List.sum_nil]; omega), fun hp => absurd hp (by simp)⟩
   haveI : Inhabited α := ⟨(all 0 (by omega)).choose⟩
   obtain ⟨f, hf⟩ := Go.Deep.choose_lt all
   have hle : ∀ i, i < len' → Rows.uptoBulk (D i) ≤ Rows.uptoBulk d := fun i hil => by
     have := part_le (H := H) (d := D i) (l := (List.range len').map D) (List.mem_map_of_mem (List.mem_range.2 hil))
     omega
   refine ⟨some a', cap', (List.range len').map f, by simp, fun h => (by cases h), by simp; omega, ?_, ?_, ?_, fun hp => ?_⟩
   · have := bulk_len ((List.range len').map D)
     simp only [List.length_map, List.length_range] at this ⊢
     omega
   · intro y hy
     obtain ⟨i, hi', rfl⟩ := List.mem_map.1 hy
     have hil := List.mem_range.1 hi'
     obtain ⟨cs, h1, _, _⟩ := hf i hil
     exact ⟨cs, D i, h1, hle i hil⟩
   · intro μ hμ
     rw [List.map_map]
     have := sum_bulk D (μ ∘ f) (List.range len') fun i hi => by
      obtain ⟨cs, h1, _, _⟩ := hf i (List.mem_range.1 hi)
      exact hμ _ _ _ h1 (hle i (List.mem_range.1 hi))
     omega
   · obtain ⟨b, off, spot⟩ := a'
     obtain ⟨cs0, _, hl0, hc0⟩ := hf 0 (by omega)
     obtain ⟨u0, hu0⟩ : ∃ u, cs0[0]? = some u := ⟨_, List.getElem?_eq_getElem (by omega)⟩
     have hcc := hc0 0 u0 hu0
     have hspot : spot = none := by simpa [Addr.add] using World.cell?_spot hcc
     subst hspot
     have hlt := World.block_lt_of_cell? W _ hcc
     refine ⟨b, off, rfl, by simpa [Addr.add] using hlt, fun i y hy => ?_⟩
     rw [List.getElem?_map] at hy
     have hil : i < len' := by
      rcases Nat.lt_or_ge i len' with h | h
      · exact h
      · rw [List.getElem?_eq_none (by simpa using h)] at hy; cases hy
     rw [List.getElem?_range hil] at hy
     injection hy with hy
     subst hy
     obtain ⟨cs, h1, h2, h3⟩ := hf i hil
     refine ⟨cs, D i, h1, h2, fun r u hu => ?_⟩
     have := h3 r u hu
     rw [add_plain] at this
     rw [Nat.add_assoc]
     exact this
section
variable {H : Type} {enc : TypeId × Value → H} {W : World} {base fuel : Nat} {sp : Nat → Bool} {held : Bool} {v : Value} {d : DataW H} {p : List MemPlace}
theorem numsS (h : DataW.trod enc Tryz.prog W base sp held fuel 43 [v] = some (d, p)) : ∃ (A : Option Addr) (c : Nat) (l : List Int), v = .slice A l.length c ∧ l.length + 1 ≤ Rows.uptoBulk d ∧ Pa.PL W A c l := by
 obtain ⟨A, c, l, rfl, h1, h2, h3, h4, hS, h5⟩ := open_rowS (α := Int) (Q := fun y cs _ => cs = [.int .i64 y] ∧ W64 y) Tryz.underlying43 Tryz.cells3 (by omega) h fun n cs dd pp hl ht => by
   match cs, hl with
   | [u], _ =>
    obtain ⟨z, rfl, hz⟩ := open_int1 ht
    exact ⟨z, rfl, hz⟩
 refine ⟨A, c, l, rfl, by have := hS (fun _ => 9) fun y cs dd _ _ => (by have := bulk_pos dd; omega); have e := sum_nine l; omega, fun hp => ?_, h1, h2, fun z hz => ?_⟩
 · obtain ⟨b, o, e, hlt, hc⟩ := h5 hp
   refine ⟨b, o, e, hlt, fun k x hx => ?_⟩
   obtain ⟨cs, dd, ⟨rfl, _⟩, _, hcell⟩ := hc k x hx
   have := hcell 0 _ rfl
   simpa using this
 · obtain ⟨cs, dd, ⟨_, hw⟩, _⟩ := h4 z hz
   unfold W64 at hw
   omega
set_option maxRecDepth 100000 in
theorem entsS (h : DataW.trod enc Tryz.prog W base sp held fuel 23 [v] = some (d, p)) : ∃ l : List Ent, SlV W No v l.length (entCells l) ∧ l.length ≤ Rows.uptoBulk d ∧ (∀ e ∈ l, e.1.length ≤ Rows.uptoBulk d ∧ W64 e.2) ∧ (Rows.uptoBulk d ≤ 1048576 → (l.flatMap entBytes).length + 9 ≤ 9 * Rows.uptoBulk d) := by
 obtain ⟨A, c, l, rfl, h1, h2, h3, h4, hS, h5⟩ := open_rowS (α := Ent) (Q := fun y cs dd => cs = [.string (str y.1), .int .i64 y.2] ∧ y.1.length + 3 ≤ Rows.uptoBulk dd ∧ W64 y.2) Tryz.underlying23 Tryz.cells42 (by omega) h fun n cs dd pp hl ht => by
   obtain ⟨xs, k, hk, hxy, _, hxl, hf⟩ := DataW.trod_struct Tryz.underlying42 ht
   match xs, hxl, cs, hl with
   | [y0, y1], _, [v0, v1], _ =>
    have g0 := hf 0 _ rfl
    have g1 := hf 1 _ rfl
    simp [Tryz.cells3, Tryz.cells9] at g0 g1
    obtain ⟨s, hs, hsd, _⟩ := DataW.trod_string Tryz.underlying9 g0
    obtain ⟨z, rfl, hz⟩ := open_int1 g1
    injection hs with hs
    refine ⟨(s.data.toList, z), by rw [hs, ← str_of], ?_, hz⟩
    have p1 := bulk_pos y1.1
    have := (Prod.mk.inj hxy).1
    rw [this, hsd]
    simp [Rows.uptoBulk, Rows.uptoBulkAll]
    omega
 refine ⟨l, ?_, h3, (fun e he => ?_), fun hb => by rw [flat_len]; exact hS _ fun y cs dd hq hle => by have := hq.2.1; have := Pa.encZ_len y.2; have g : (Tp.txt (str y.1)).length ≤ 9 + y.1.length := txt_le9 (by omega); simp only [entBytes, List.length_append]; omega⟩
 · rw [entCells_flat]
   refine row_slv (s := 2) (fun _ => rfl) h1 h2 fun hp => ?_
   obtain ⟨b, o, e, hlt, hc⟩ := h5 hp
   refine ⟨b, o, e, hlt, fun i y hy r u hu => ?_⟩
   obtain ⟨cs, dd, ⟨rfl, _⟩, _, hcell⟩ := hc i y hy
   exact hcell r u hu
 · obtain ⟨cs, dd, ⟨_, hw, hw2⟩, hb⟩ := h4 e he
   exact ⟨by omega, hw2⟩
set_option maxRecDepth 100000 in
theorem kidsS9 (h : DataW.trod enc Tryz.prog W base sp held fuel 24 [v] = some (d, p)) : ∃ l : List Kd, SlV W No v l.length (kidCells l) ∧ l.length ≤ Rows.uptoBulk d ∧ (∀ k ∈ l, W64 k.1 ∧ W64 k.2.1 ∧ W64 k.2.2) ∧ (Rows.uptoBulk d ≤ 1048576 → (l.flatMap kidBytes).length + 9 ≤ 9 * Rows.uptoBulk d) := by
 obtain ⟨A, c, l, rfl, h1, h2, h3, h4, hS, h5⟩ := open_rowS (α := Kd) (Q := fun y cs dd => cs = [.int .i64 y.1, .int .i64 y.2.1, .int .i64 y.2.2] ∧ W64 y.1 ∧ W64 y.2.1 ∧ W64 y.2.2 ∧ 3 ≤ Rows.uptoBulk dd) Tryz.underlying24 Tryz.cells85 (by omega) h fun n cs dd pp hl ht => by
   obtain ⟨xs, k, hk, hxy, _, hxl, hf⟩ := DataW.trod_struct Tryz.underlying85 ht
   match xs, hxl, cs, hl with
   | [y0, y1, y2], _, [v0, v1, v2], _ =>
    have g0 := hf 0 _ rfl
    have g1 := hf 1 _ rfl
    have g2 := hf 2 _ rfl
    simp [Tryz.cells3] at g0 g1 g2
    obtain ⟨z0, rfl, hz0⟩ := open_int1 g0
    obtain ⟨z1, rfl, hz1⟩ := open_int1 g1
    obtain ⟨z2, rfl, hz2⟩ := open_int1 g2
    refine ⟨(z0, z1, z2), rfl, hz0, hz1, hz2, ?_⟩
    have := (Prod.mk.inj hxy).1
    rw [this]
    have := bulk_pos y0.1
    have := bulk_pos y1.1
    have := bulk_pos y2.1
    simp only [List.map_cons, List.map_nil, Rows.uptoBulk, Rows.uptoBulkAll]
    omega
 refine ⟨l, ?_, h3, (fun e he => ?_), fun hb => by rw [flat_len]; exact hS _ fun y cs dd hq hle => by have := hq.2.2.2.2; have := Pa.encZ_len y.1; have := Pa.encZ_len y.2.1; have := Pa.encZ_len y.2.2; simp only [kidBytes, List.length_append]; omega⟩
 · rw [kidCells_flat]
   refine row_slv (s := 3) (fun _ => rfl) h1 h2 fun hp => ?_
   obtain ⟨b, o, e, hlt, hc⟩ := h5 hp
   refine ⟨b, o, e, hlt, fun i y hy r u hu => ?_⟩
   obtain ⟨cs, dd, ⟨rfl, _⟩, _, hcell⟩ := hc i y hy
   exact hcell r u hu
 · obtain ⟨cs, dd, ⟨_, hw⟩, _⟩ := h4 e he
   exact ⟨hw.1, hw.2.1, hw.2.2.1⟩
theorem bytesS (h : DataW.trod enc Tryz.prog W base sp held fuel 25 [v] = some (d, p)) : ∃ l : List Nat, SlV W No v l.length (Tp.cellsOf l) ∧ l.length ≤ Rows.uptoBulk d ∧ Tp.Sml l ∧ l.length + 9 ≤ 9 * Rows.uptoBulk d := by
 obtain ⟨A, c, l, rfl, h1, h2, h3, h4, hS, h5⟩ := open_rowS (α := Nat) (Q := fun y cs _ => cs = [.int .u8 (y : Int)] ∧ y < 256) Tryz.underlying25 Tryz.cells5 (by omega) h fun n cs dd pp hl ht => by
   match cs, hl with
   | [u], _ =>
    obtain ⟨z, h1, _, h2⟩ := DataW.trod_int Tryz.underlying5 ht
    injection h1 with h1
    have e1 : IntKind.u8.min = 0 := by decide
    have e2 : IntKind.u8.max = 255 := by decide
    simp only [Lit.wf, e1, e2, Bool.and_eq_true, decide_eq_true_eq] at h2
    refine ⟨z.toNat, ?_, by omega⟩
    rw [h1, Int.toNat_of_nonneg h2.1]
 refine ⟨l, ?_, h3, (fun e he => ?_), by have := hS (fun _ => 1) fun y cs dd hq _ => (by have := bulk_pos dd; omega); rwa [sum_one] at this⟩
 · unfold Tp.cellsOf
   rw [map_flat]
   refine row_slv (s := 1) (fun _ => rfl) h1 h2 fun hp => ?_
   obtain ⟨b, o, e, hlt, hc⟩ := h5 hp
   refine ⟨b, o, e, hlt, fun i y hy r u hu => ?_⟩
   obtain ⟨cs, dd, ⟨rfl, _⟩, _, hcell⟩ := hc i y hy
   exact hcell r u hu
 · obtain ⟨cs, dd, ⟨_, hw⟩, _⟩ := h4 e he
   exact hw
theorem ownS9 (h : DataW.trod enc Tryz.prog W base sp held fuel 26 [v] = some (d, p)) : ∃ l : List (List UInt8), SlV W No v l.length (strCellsOf l) ∧ l.length ≤ Rows.uptoBulk d ∧ (∀ x ∈ l, x.length ≤ Rows.uptoBulk d) ∧ (Rows.uptoBulk d ≤ 1048576 → (l.flatMap catBytes).length + 9 ≤ 9 * Rows.uptoBulk d) := by
 obtain ⟨A, c, l, rfl, h1, h2, h3, h4, hS, h5⟩ := open_rowS (α := List UInt8) (Q := fun y cs dd => cs = [.string (str y)] ∧ y.length + 1 ≤ Rows.uptoBulk dd) Tryz.underlying26 Tryz.cells9 (by omega) h fun n cs dd pp hl ht => by
   match cs, hl with
   | [u], _ =>
    obtain ⟨s, hs, hsd, _⟩ := DataW.trod_string Tryz.underlying9 ht
    injection hs with hs
    have := (Prod.mk.inj hsd).1
    exact ⟨s.data.toList, by rw [hs, ← str_of], by rw [this]; simp [Rows.uptoBulk]⟩
 refine ⟨l, ?_, h3, (fun e he => ?_), fun hb => by rw [flat_len]; exact hS _ fun y cs dd hq hle => by have := hq.2; have g : (Tp.txt (str y)).length ≤ 9 + y.length := txt_le9 (by omega); show (catBytes y).length ≤ _; unfold catBytes; omega⟩
 · unfold strCellsOf
   rw [map_flat]
   refine row_slv (s := 1) (fun _ => rfl) h1 h2 fun hp => ?_
   obtain ⟨b, o, e, hlt, hc⟩ := h5 hp
   refine ⟨b, o, e, hlt, fun i y hy r u hu => ?_⟩
   obtain ⟨cs, dd, ⟨rfl, _⟩, _, hcell⟩ := hc i y hy
   exact hcell r u hu
 · obtain ⟨cs, dd, ⟨_, hw⟩, hb⟩ := h4 e he
   omega
set_option maxRecDepth 100000 in
theorem mapsS9 (h : DataW.trod enc Tryz.prog W base sp held fuel 27 [v] = some (d, p)) : ∃ l : List Mp, MapsV W No v l ∧ l.length ≤ Rows.uptoBulk d ∧ (∀ m ∈ l, W64 m.1 ∧ m.2.1.length ≤ Rows.uptoBulk d ∧ Pa.WideZ m.2.1) ∧ (Rows.uptoBulk d ≤ 1048576 → (l.flatMap mapBytes).length + 9 ≤ 9 * Rows.uptoBulk d) := by
 obtain ⟨A, c, l, rfl, h1, h2, h3, h4, hS, h5⟩ := open_rowS (α := Mp) (Q := fun y cs dd => ∃ s, cs = [.int .i64 y.1, s, .bool y.2.2] ∧ SlV W No s y.2.1.length (Pa.zCellsOf y.2.1) ∧ y.2.1.length + 4 ≤ Rows.uptoBulk dd ∧ W64 y.1 ∧ Pa.WideZ y.2.1) Tryz.underlying27 Tryz.cells45 (by omega) h fun n cs dd pp hl ht => by
   obtain ⟨xs, k, hk, hxy, _, hxl, hf⟩ := DataW.trod_struct Tryz.underlying45 ht
   match xs, hxl, cs, hl with
   | [y0, y1, y2], _, [v0, v1, v2], _ =>
    have g0 := hf 0 _ rfl
    have g1 := hf 1 _ rfl
    have g2 := hf 2 _ rfl
    simp [Tryz.cells3, Tryz.cells43, Tryz.cells4] at g0 g1 g2
    obtain ⟨z0, rfl, hz0⟩ := open_int1 g0
    obtain ⟨A1, c1, l1, rfl, hb1, hp1⟩ := numsS g1
    obtain ⟨bb, hbb, _⟩ := DataW.trod_bool Tryz.underlying4 g2
    injection hbb with hbb
    subst hbb
    refine ⟨(z0, l1, bb), _, rfl, pl_slv hp1, ?_, hz0, hp1.wide⟩
    have p0 := bulk_pos y0.1
    have p2 := bulk_pos y2.1
    show l1.length + 4 ≤ _
    have := (Prod.mk.inj hxy).1
    rw [this]
    simp only [List.map_cons, List.map_nil, Rows.uptoBulk, Rows.uptoBulkAll]
    omega
 refine ⟨l, ⟨A, c, rfl, h1, h2, fun hp => ?_⟩, h3, (fun e he => ?_), fun hb => by rw [flat_len]; exact hS _ fun y cs dd hq hle => by obtain ⟨s, _, _, hq, _⟩ := hq; have := Pa.encZ_len y.1; have := Pa.encZ_len (if y.2.2 then 1 else 0); have := Pa.flatZ_len y.2.1; have : (Tp.enc y.2.1.length).length ≤ 9 := Tp.enc_nine (by omega); simp only [mapBytes, Pa.zBytes, List.length_append]; omega⟩
 · obtain ⟨b, o, e, hlt, hc⟩ := h5 hp
   refine ⟨b, o, e, fun h => h, hlt, fun i y hy => ?_⟩
   obtain ⟨cs, dd, ⟨s, rfl, hsv, _⟩, _, hcell⟩ := hc i y hy
   have q0 := hcell 0 _ rfl
   have q1 := hcell 1 _ rfl
   have q2 := hcell 2 _ rfl
   exact ⟨by simpa using q0, ⟨s, q1, hsv⟩, q2⟩
 · obtain ⟨cs, dd, ⟨s, _, _, hb, hw1, hw2⟩, hb2⟩ := h4 e he
   exact ⟨hw1, by omega, hw2⟩
set_option maxRecDepth 100000 in
theorem obS9 {cs : List Value} (hl : cs.length = 10) (h : DataW.trod enc Tryz.prog W base sp held fuel 29 cs = some (d, p)) :
  ∃ o : Ob, ObjAt W No (.agg cs.toArray) o ∧ (Rows.uptoBulk d ≤ 1048576 → WideO o ∧ (obBytes o).length ≤ 9 * Rows.uptoBulk d) := by
 obtain ⟨xs, k, hk, hxy, _, hxl, hf⟩ := DataW.trod_struct Tryz.underlying29 h
 match xs, hxl, cs, hl with
 | [y0, y1, y2, y3, y4, y5, y6, y7, y8, y9], _, [v0, v1, v2, v3, v4, v5, v6, v7, v8, v9], _ =>
  have g0 := hf 0 _ rfl
  have g1 := hf 1 _ rfl
  have g2 := hf 2 _ rfl
  have g3 := hf 3 _ rfl
  have g4 := hf 4 _ rfl
  have g5 := hf 5 _ rfl
  have g6 := hf 6 _ rfl
  have g7 := hf 7 _ rfl
  have g8 := hf 8 _ rfl
  have g9 := hf 9 _ rfl
  simp [Tryz.cells3, Tryz.cells23, Tryz.cells24, Tryz.cells25, Tryz.cells26, Tryz.cells27] at g0 g1 g2 g3 g4 g5 g6 g7 g8 g9
  obtain ⟨z0, rfl, w0⟩ := open_int1 g0
  obtain ⟨l1, s1, b1, w1, n1⟩ := entsS g1
  obtain ⟨l2, s2, b2, w2, n2⟩ := kidsS9 g2
  obtain ⟨z3, rfl, w3⟩ := open_int1 g3
  obtain ⟨l4, s4, b4, w4, n4⟩ := bytesS g4
  obtain ⟨l5, s5, b5, w5, n5⟩ := ownS9 g5
  obtain ⟨z6, rfl, w6⟩ := open_int1 g6
  obtain ⟨l7, s7, b7, w7, n7⟩ := entsS g7
  obtain ⟨z8, rfl, w8⟩ := open_int1 g8
  obtain ⟨l9, s9, b9, w9, n9⟩ := mapsS9 g9
  refine ⟨⟨z0, l1, l2, z3, l4, l5, z6, l7, z8, l9⟩, ⟨v2, ⟨v1, v4, v5, v7, v9, rfl, s1, s4, s5, s7, s9⟩, s2⟩, fun hb => ?_⟩
  have hd := (Prod.mk.inj hxy).1
  have hbk : ∀ y ∈ [y0, y1, y2, y3, y4, y5, y6, y7, y8, y9], Rows.uptoBulk y.1 ≤ 1048576 := fun y hy => by
   have h1 : Rows.uptoBulk y.1 ≤ Rows.uptoBulkAll ([y0, y1, y2, y3, y4, y5, y6, y7, y8, y9].map Prod.fst) := part_le (List.mem_map_of_mem (f := Prod.fst) hy)
   have h2 : Rows.uptoBulk d = Rows.uptoBulkAll ([y0, y1, y2, y3, y4, y5, y6, y7, y8, y9].map Prod.fst) + 1 := by rw [hd]; simp only [Rows.uptoBulk]
   omega
  have q1 := hbk y1 (by simp)
  have q2 := hbk y2 (by simp)
  have q4 := hbk y4 (by simp)
  have q5 := hbk y5 (by simp)
  have q7 := hbk y7 (by simp)
  have q9 := hbk y9 (by simp)
  refine ⟨{ kind := w0, next := w3, cats := w6, ring := w8, lab := ⟨by show l1.length ≤ _; omega, fun e he => ⟨by have := (w1 e he).1; omega, (w1 e he).2⟩⟩, kids := ⟨by show l2.length ≤ _; omega, w2⟩, bytes := ⟨by show l4.length ≤ _; omega, w4⟩, own := ⟨by show l5.length ≤ _; omega, fun x hx => by have := w5 x hx; omega⟩, entry := ⟨by show l7.length ≤ _; omega, fun e he => ⟨by have := (w7 e he).1; omega, (w7 e he).2⟩⟩, maps := ⟨by show l9.length ≤ _; omega, fun m hm => ⟨(w9 m hm).1, by have := (w9 m hm).2.1; omega, (w9 m hm).2.2⟩⟩ }, ?_⟩
  have m1 := n1 q1
  have m2 := n2 q2
  have m5 := n5 q5
  have m7 := n7 q7
  have m9 := n9 q9
  have h2 : Rows.uptoBulk d = Rows.uptoBulkAll ([y0, y1, y2, y3, y4, y5, y6, y7, y8, y9].map Prod.fst) + 1 := by rw [hd]; simp only [Rows.uptoBulk]
  simp only [List.map_cons, List.map_nil, Rows.uptoBulkAll] at h2
  have p0 := bulk_pos y0.1
  have p3 := bulk_pos y3.1
  have p6 := bulk_pos y6.1
  have p8 := bulk_pos y8.1
  have z0' := Pa.encZ_len z0
  have z3' := Pa.encZ_len z3
  have z6' := Pa.encZ_len z6
  have z8' := Pa.encZ_len z8
  have e1 := Tp.enc_nine (n := l1.length) (by omega)
  have e2 := Tp.enc_nine (n := l2.length) (by omega)
  have e4 := Tp.enc_nine (n := l4.length) (by omega)
  have e5 := Tp.enc_nine (n := l5.length) (by omega)
  have e7 := Tp.enc_nine (n := l7.length) (by omega)
  have e9 := Tp.enc_nine (n := l9.length) (by omega)
  simp only [obBytes, labBytes, ownBytes, List.length_append]
  omega
end
end Go.Proofs.YtgcbfggoddkhnaaGreatDoor
namespace Go.Proofs.YtgcbfggoddkhnaaGreatDoor
open Go.RowKit Go.WideShapes
theorem open_ob {H : Type} {enc : TypeId × Value → H} {W : World} {base : Nat} {sp : Nat → Bool} {held : Bool} {v : Value} {d : DataW H} {p : List MemPlace}
  (h : DataW.Trod enc Tryz.prog W base sp held 29 v d p) (hv : ∃ cs, v = .agg cs ∧ cs.size = Tryz.prog.cellsOf 29) (hb : Rows.uptoBulk d ≤ 1048576) :
  ∃ o : Ob, ObjAt W No v o ∧ WideO o ∧ (obBytes o).length ≤ 10000000 := by
 obtain ⟨cs, rfl, hsz⟩ := hv
 obtain ⟨fuel, hf⟩ := h
 have hf : DataW.trod enc Tryz.prog W base sp held fuel 29 cs.toList = some (d, p) := hf
 have hl : cs.toList.length = 10 := by rw [Array.length_toList]; exact hsz.trans Tryz.cells29
 obtain ⟨o, h1, h2⟩ := obS9 hl hf
 obtain ⟨h3, h4⟩ := h2 hb
 exact ⟨o, by simpa using h1, h3, by omega⟩
end Go.Proofs.YtgcbfggoddkhnaaGreatDoor
