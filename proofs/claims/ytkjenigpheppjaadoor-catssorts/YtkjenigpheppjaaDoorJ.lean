/- The reference: Get. -/
import Derived.Test.YtkjenigpheppjaaDoorI
import Derived.Laws.AppendOwn
namespace Go.Proofs.YtkjenigpheppjaaDoor
open Go.RowKit

/-- A category in memory, in block g. -/
def Pair (W : World) (g : Nat) (v : Value) (n : Int) : Prop := W.heap[g]? = some (.cells #[v, .int .i64 n] 27 (0, 0))
theorem Pair.lt {W : World} {g : Nat} {v : Value} {n : Int} (h : Pair W g v n) : g < W.heap.size := (Array.getElem?_eq_some_iff.1 h).1
theorem Pair.cell0 {W : World} {g : Nat} {v : Value} {n : Int} (h : Pair W g v n) : W.cell? ⟨g, 0, none⟩ = some v := by simp [World.cell?, show W.heap[g]? = _ from h]
theorem Pair.cell1 {W : World} {g : Nat} {v : Value} {n : Int} (h : Pair W g v n) : W.cell? ⟨g, 1, none⟩ = some (.int .i64 n) := by simp [World.cell?, show W.heap[g]? = _ from h]
theorem Pair.frozen {W : World} {g : Nat} {v : Value} {n : Int} (h : Pair W g v n) (k : Nat) : W.frozen? ⟨g, k, none⟩ = false := by simp [World.frozen?, show W.heap[g]? = _ from h]
theorem Pair.kept {W W' : World} {row : Option Nat} {g : Nat} {v : Value} {n : Int} (h : Pair W g v n) (hg : W.grownBy W' row) (hne : some g ≠ row) : Pair W' g v n := (hg.block g h.lt hne).trans h
theorem Pair.alloc {W : World} {g : Nat} {v : Value} {n : Int} (h : Pair W g v n) (o : Obj) : Pair (W.alloc o) g v n := h.kept (World.grownBy_alloc W o none) (by simp)
theorem Pair.new (W : World) (v : Value) (n : Int) : Pair (W.alloc (.cells #[v, .int .i64 n] 27)) W.heap.size v n := World.alloc_heap_new W _
theorem grown_setCell (W : World) (p : Addr) (v : Value) : W.grownBy (W.setCell p v) (some p.block) :=
  ⟨rfl, rfl, rfl, (KeepsWalks.setCell W _ v).size, fun k _ hk => Below.heap_setCell _ _ _ k (fun e => hk (by rw [e]))⟩
theorem Pair.set0 {W : World} {g : Nat} {v : Value} {n : Int} (h : Pair W g v n) (v' : Value) : Pair (W.setCell ⟨g, 0, none⟩ v') g v' n := by
  obtain ⟨hlt, hk⟩ := Array.getElem?_eq_some_iff.1 h
  show (W.heap.modify g _)[g]? = _
  rw [Array.getElem?_eq_getElem (by rw [Array.size_modify]; exact hlt), Array.getElem_modify_self, hk]
  rfl
theorem Pair.set1 {W : World} {g : Nat} {v : Value} {n : Int} (h : Pair W g v n) (n' : Int) : Pair (W.setCell ⟨g, 1, none⟩ (.int .i64 n')) g v n' := by
  obtain ⟨hlt, hk⟩ := Array.getElem?_eq_some_iff.1 h
  show (W.heap.modify g _)[g]? = _
  rw [Array.getElem?_eq_getElem (by rw [Array.size_modify]; exact hlt), Array.getElem_modify_self, hk]
  rfl

/-- append(path, u), path a row of numbers of the call's own. -/
theorem wpList_append_num {w : World} {ops : Array Oper} {rest : List Oper} {o : Oper} {a : Act} {Q : Exit → Act → World → Prop} (hgd : o.guard = none) (s x : Operand)
    (ho : o.op = .call { callee := .builtin .append, args := #[s, x], argTypes := #[22, 22] }) (base : Nat) (v : Value) (us : List Nat) (hs : a.eval s = v)
    (hown : NumRow w base v us) (ad : Addr) (u : Nat) (hxe : a.eval x = .slice (some ad) 1 1) (hc : ∀ j y, [Value.int .i64 (u : Int)][j]? = some y → w.cell? (ad.add j) = some y)
    (hn : us.length + 1 ≤ 1000000) (hbase : base ≤ w.heap.size)
    (h : ∀ v' w', NumRow w' base v' (us ++ [u]) → w.grownBy w' v.ownBlock → wpList Tryd.prog ops Q rest (a.put o.dst v') w') : wpList Tryd.prog ops Q (o :: rest) a w := by
  obtain ⟨i0, hi, hz0, hz1, hz2⟩ := info_parts Tryd.info3
  refine wpList_append_own w hgd s x 22 ho base 3 i0 _ 1 8 Tryd.underlying22 hi hz0 hz1 hz2 rfl (by decide) v us.length _ hs hown ad 1 1 [.int .i64 (u : Int)] hxe rfl hc (by simp [Value.oneCell']) (by unfold maxLen; omega) (by omega) hbase ?_
  intro v' w' h1 h2 _
  exact h v' w' (by unfold NumRow numCells; rw [List.map_append, List.length_append]; exact h1) h2

def ints (p : List Nat) : List Int := p.map fun u : Nat => (u : Int)
theorem ints_length (p : List Nat) : (ints p).length = p.length := by simp [ints]
theorem nats_ints (p : List Nat) : nats (ints p) = p := by simp [nats, ints, Function.comp_def]
theorem ok_ints {p : List Nat} {n : Nat} : CatOk (ints p) (n : Int) ↔ Fits p n := by
  constructor
  · rintro ⟨⟨h1, h2⟩, _, h4⟩
    refine ⟨⟨by rwa [ints_length] at h1, fun u hu => ?_⟩, by omega⟩
    have := h2 (u : Int) (List.mem_map.2 ⟨u, hu, rfl⟩)
    omega
  · rintro ⟨⟨h1, h2⟩, h3⟩
    refine ⟨⟨by rwa [ints_length], fun z hz => ?_⟩, by omega, by omega⟩
    obtain ⟨u, hu, rfl⟩ := List.mem_map.1 hz
    have := h2 u hu
    omega
theorem NumRow.ints {w : World} {B : Nat} {v : Value} {p : List Nat} (h : NumRow w B v p) (hp : ∀ u ∈ p, u < 100000000) : ∃ A c, v = .slice A p.length c ∧ Ints w w.heap.size A (ints p) := by
  have h0 : w.ownsRow B 3 1 v p.length (numCells p) := h
  have hr : ∀ z ∈ YtkjenigpheppjaaDoor.ints p, -9223372036854775808 ≤ z ∧ z ≤ 9223372036854775807 := fun z hz => by
    obtain ⟨u, hu, rfl⟩ := List.mem_map.1 hz
    have := hp u hu
    omega
  rcases h0.2 with ⟨rfl, he⟩ | ⟨g, cap, cur, rfl, hb, hh, hcc⟩
  · exact ⟨none, 0, by rw [he], hr, fun h => by rw [ints_length] at h; omega⟩
  · refine ⟨_, cap, rfl, hr, fun _ => ⟨g, 0, rfl, (h0.lt g rfl).2, fun k z hk => ?_⟩⟩
    obtain ⟨u, hu, rfl⟩ : ∃ u : Nat, p[k]? = some u ∧ z = (u : Int) := by
      simp only [YtkjenigpheppjaaDoor.ints, List.getElem?_map, Option.map_eq_some_iff] at hk
      obtain ⟨u, h1, h2⟩ := hk
      exact ⟨u, h1, h2.symm⟩
    have := h0.cells (g := g) rfl k (.int .i64 (u : Int)) (by simp [numCells, hu])
    rwa [Go.WideShapes.add_plain] at this

/-- The category that a text is, and true; else an empty one and false. -/
def RetGet (w : World) (s : List UInt8) (e : Ending) (w' : World) : Prop :=
  Below w.heap.size w w' ∧ ((∃ p n v, catOf s = some (p, n) ∧ e = .returned (.tuple #[.agg #[v, .int .i64 (n : Int)], .bool true]) ∧ NumRow w' w.heap.size v p) ∨
    (catOf s = none ∧ e = .returned (.tuple #[.agg #[.slice none 0 0, .int .i64 0], .bool false])))

/-- The result's variable, and the category's as it is gathered. -/
def Gath (w : World) (p : List Nat) (n : Int) (W : World) : Prop :=
  Pair W w.heap.size (.slice none 0 0) 0 ∧ (∃ v, Pair W (w.heap.size + 1) v n ∧ NumRow W (w.heap.size + 2) v p) ∧ Below w.heap.size w W ∧ w.heap.size + 2 ≤ W.heap.size

def GetRel (w : World) (s : List UInt8) (k : Nat) (a b i : Value) (wr : World) : Prop :=
  ∃ (m n d : Nat) (p : List Nat), m + k = s.length ∧ a = .int .i64 (n : Int) ∧ b = .int .i64 (d : Int) ∧ i = .int .i64 (m : Int) ∧ scan (s.drop m) p n d = scan s [] 0 0 ∧ d ≤ 8 ∧ n < 10 ^ d ∧
    p.length ≤ m ∧ (∀ u ∈ p, u < 100000000) ∧ Gath w p 0 wr

theorem str_index {s : List UInt8} {S : ByteArray} {m : Nat} {x : UInt8} (hS : S = str s) (h : s[m]? = some x) (W : World) : (Instr.index 9 (.string S) (.int .i64 (m : Int))).run Tryd.prog W = .ok (.int .u8 (x.toNat : Int)) W := by
  subst hS
  obtain ⟨hm, hx⟩ := List.getElem?_eq_some_iff.1 h
  rw [run_index_string W 9 _ .i64 _ Tryd.underlying9, dif_pos ⟨by omega, by rw [str_size]; omega⟩]
  simp only [Int.toNat_natCast]
  congr 3
  rw [← hx]
  rfl
theorem drop_at {s : List UInt8} {m : Nat} {x : UInt8} (h : s[m]? = some x) : s.drop m = x :: s.drop (m + 1) := by
  obtain ⟨hm, hx⟩ := List.getElem?_eq_some_iff.1 h
  rw [← hx]
  exact List.drop_eq_getElem_cons hm
theorem gath_start (w : World) : Gath w [] 0 ((w.alloc (.cells #[.slice none 0 0, .int .i64 0] 27)).alloc (.cells #[.slice none 0 0, .int .i64 0] 27)) := by
  have h1 := Pair.new (w.alloc (.cells #[.slice none 0 0, .int .i64 0] 27)) (.slice none 0 0) 0
  rw [World.size_alloc] at h1
  exact ⟨(Pair.new w _ _).alloc _, ⟨_, h1, World.ownsRow_nil _ _ _ _⟩, ((Below.refl _ _).alloc (Nat.le_refl _) _).alloc (by simp) _, by simp⟩
theorem pow_le8 {d n : Nat} (h : n < 10 ^ d) (hd : d ≤ 8) : n < 100000000 := Nat.lt_of_lt_of_le h (Nat.pow_le_pow_right (by omega) hd)

theorem gath_append {w W w1 : World} {p : List Nat} {u : Nat} {n : Int} {v v' : Value} {tmp : Obj} (h0 : Pair W w.heap.size (.slice none 0 0) 0) (h1 : Pair W (w.heap.size + 1) v n) (hrow : NumRow W (w.heap.size + 2) v p) (hb : Below w.heap.size w W) (hsz : w.heap.size + 2 ≤ W.heap.size)
    (hown : NumRow w1 (w.heap.size + 2) v' (p ++ [u])) (hgrow : (W.alloc tmp).grownBy w1 v.ownBlock) : Pair w1 (w.heap.size + 1) v n ∧ Gath w (p ++ [u]) n (w1.setCell ⟨w.heap.size + 1, 0, none⟩ v') := by
  have hne : ∀ k, k < w.heap.size + 2 → some k ≠ v.ownBlock := fun k hk e => by
    have := (World.ownsRow.lt hrow k e.symm).1
    omega
  have hne' : ∀ k, k < w.heap.size + 2 → some k ≠ v'.ownBlock := fun k hk e => by
    have := (World.ownsRow.lt hown k e.symm).1
    omega
  have p1 := (h1.alloc tmp).kept hgrow (hne _ (by omega))
  have p0 := (h0.alloc tmp).kept hgrow (hne _ (by omega))
  refine ⟨p1, p0.kept (grown_setCell w1 _ v') (by intro e; injection e with e; simp at e), ⟨v', p1.set0 v', World.ownsRow.kept hown (grown_setCell w1 _ v') (.inr fun e => hne' _ (by simp) e.symm)⟩, ?_, ?_⟩
  · refine ((hb.alloc hb.size tmp).grown hgrow (by have := hb.size; simp; omega) fun j e => ?_).setCell (p := ⟨w.heap.size + 1, 0, none⟩) (by simp) v'
    have := (World.ownsRow.lt hrow j e).1
    omega
  · have h2 := hgrow.size
    have h3 := (grown_setCell w1 ⟨w.heap.size + 1, 0, none⟩ v').size
    rw [World.size_alloc] at h2
    omega
end Go.Proofs.YtkjenigpheppjaaDoor
